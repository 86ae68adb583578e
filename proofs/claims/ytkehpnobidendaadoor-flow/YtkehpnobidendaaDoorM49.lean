/- parleykeep's Recovers: true, whatever the input. parleykeep's Flow: the cluster and what each leader was given, in memory. parleykeep's Flow: its loops over the letters and over the logs. parleykeep's Flow: the loop that gives the commands. parleykeep's Flow: true, whatever the input. -/
import Derived.Test.YtkehpnobidendaaDoorM48
import Derived.Test.YtkehpnobidendaaDoorM47
import Derived.Test.YtkehpnobidendaaDoorM37
namespace Go.Proofs.YtkehpnobidendaaDoor
open Go.RowKit

/-- Where what a member had lies. -/
theorem KSit.vcells {w : World} {p : Nat} {A : Nat → Nat → Prop} {ps : List (Option Nat)} {K : Clu} (h : KSit w p A ps K) (k : Nat) (hk : k < 4) : w.cell? ⟨p, 5 + k * 4, none⟩ = some (.int .i64 (K.was k).view) ∧ w.cell? ⟨p, 5 + k * 4 + 1, none⟩ = some (.int .i64 (K.was k).high) ∧ w.cell? ⟨p, 5 + k * 4 + 2, none⟩ = some (.int .i64 (K.was k).locked) := by
  obtain ⟨vm, vl, vc, vv, l0, l1, l2, l3, vb, g1⟩ := h.k.ex
  rcases (by omega : k = 0 ∨ k = 1 ∨ k = 2 ∨ k = 3) with rfl | rfl | rfl | rfl
  · exact ⟨cell_at g1.box 5, cell_at g1.box 6, cell_at g1.box 7⟩
  · exact ⟨cell_at g1.box 9, cell_at g1.box 10, cell_at g1.box 11⟩
  · exact ⟨cell_at g1.box 13, cell_at g1.box 14, cell_at g1.box 15⟩
  · exact ⟨cell_at g1.box 17, cell_at g1.box 18, cell_at g1.box 19⟩
theorem KSit.over {w : World} {p : Nat} {A : Nat → Nat → Prop} {ps : List (Option Nat)} {K : Clu} (h : KSit w p A ps K) : w.cell? ⟨p, 23, none⟩ = some (.bool K.over) := by
  obtain ⟨vm, vl, vc, vv, l0, l1, l2, l3, vb, g1⟩ := h.k.ex
  exact cell_at g1.box 23
set_option maxRecDepth 100000 in
set_option maxHeartbeats 8000000 in
theorem krecovers0 (hrok : ∀ s, s < 30 → recOk s = true) (be si : Int) (p0 : -9223372036854775808 ≤ be) (p1 : be ≤ 9223372036854775807) (t0 : -9223372036854775808 ≤ si) (t1 : si ≤ 9223372036854775807) (w : World) (ht : Tab w) :
    Calls Tryd.prog 7 #[.int .i64 be, .int .i64 si] w fun e w' => e = .returned (.bool true) ∧ Below w.heap.size w w' := by
  have HAW : Hid (Calls Tryd.prog 10 #[] w fun e w' => e = .returned (.bool true) ∧ Below w.heap.size w w') := kawake w ht
  have HT : Hid (Tab w) := ht
  have HBG : Hid (∀ W, Tab W → Calls Tryd.prog 19 #[.int .i64 (-1), .int .i64 1] W fun e w' => KBegun W (-1) 1 e w') := fun W hW => kbegins W hW (-1) 1 (by decide) (by decide)
  have HP1 : Hid (∀ W, Calls Tryd.prog 13 #[.int .i64 si, .int .i64 30] W fun e w' => e = .returned (.int .i64 (pickN si 30)) ∧ W = w') := fun W => (kpick si 30 t0 t1 (by decide) (by decide) W).mono (fun _ _ h => ⟨h.1, h.2.symm⟩)
  have HP2 : Hid (∀ W, Calls Tryd.prog 13 #[.int .i64 be, .int .i64 60] W fun e w' => e = .returned (.int .i64 (pickN be 60)) ∧ W = w') := fun W => (kpick be 60 p0 p1 (by decide) (by decide) W).mono (fun _ _ h => ⟨h.1, h.2.symm⟩)
  have hs := pickN_lt si 30 (by decide)
  have hb := pickN_lt be 60 (by decide)
  generalize pickN si 30 = s at hs HP1
  generalize pickN be 60 = b at hb HP2
  obtain ⟨r1, r2, r3, r4⟩ := recOk_out (hrok s hs)
  obtain ⟨Kf, r5, r6, r7, r8⟩ := r4 b hb
  have HR1 : Hid ((quietK (s + 1)).letters.length = 4 * (s + 1)) := r1
  have HR2 : Hid (∀ k, k < 4 → ((quietK (s + 1)).was k).log.length = 0 ∧ ((quietK (s + 1)).was k).view = (s : Int) + 2) := r2
  have HR3 : Hid (∀ (i : Nat) (hi : i < (quietK (s + 1)).letters.length), 4 * s ≤ i → ((quietK (s + 1)).letters[i]).msg.kind = 3 ∧ ((quietK (s + 1)).letters[i]).msg.view = (s : Int) + 2 ∧ ((quietK (s + 1)).letters[i]).to = ((s : Int) + 2) % 4) := r3
  have HR5 : Hid ((quietK (s + 1)).flows (4 * s) (60 + b) = (Kf, 4 * s + (60 + b), true)) := r5
  have HR6 : Hid (Kf.over = false ∧ Kf.agree = true) := ⟨r6, r7⟩
  have HR8 : Hid (∀ k, k < 4 → (Kf.was k).log.length ≠ 0 ∧ (s : Int) + 2 + 4 < (Kf.was k).view) := r8
  clear r1 r2 r3 r4 r5 r6 r7 r8 ht hrok
  have hsI : (s : Int) ≤ 29 := by omega
  have hs0 : (0 : Int) ≤ (s : Int) := by omega
  have hbI : (b : Int) ≤ 59 := by omega
  have hb0 : (0 : Int) ≤ (b : Int) := by omega
  go_enter Tryd.func7, Tryd.ntmps7
  go_upto_region 2 with (go_at_call 10; refine HAW.out.mono ?_; rintro e w1 ⟨rfl, hb1⟩; have HB1 : Hid (Below w.heap.size w w1) := hb1; clear hb1)
  have HT1 : Hid (Tab w1) := HT.out.below HB1.out
  go_upto_region 3 with (go_at_call 19; refine (HBG.out w1 HT1.out).mono ?_; rintro e w2 ⟨p, A, ps, rfl, hs2, hn2, hb2⟩; have HS : Hid (KSit w2 p A ps (quietK 0)) := hs2; have HN : Hid (∀ b, UA A b → w1.heap.size ≤ b) := hn2; have HB2 : Hid (Below w1.heap.size w1 w2) := hb2; clear hs2 hn2 hb2)
  have HK0 : Hid (KOk (quietK 0) 1) := begins_kok (-1) 1 (by decide) (by decide)
  have HBE : Hid (Below w.heap.size w w2) := bnext HB1.out HB2.out
  have HNE : Hid (∀ b, UA A b → w.heap.size ≤ b) := fun b hb => Nat.le_trans HB1.out.size (HN.out b hb)
  clear HAW HBG HT HT1 HB1 HB2 HN
  go_upto_region 6 with (go_at_call 13; refine (HP1.out _).mono ?_; rintro e w9 ⟨rfl, rfl⟩)
  clear HP1
  go_wp2
  go_loopw [7, 8] (fun oo ii wr => ∃ (i : Nat) (A1 : Nat → Nat → Prop), i ≤ s + 1 ∧ oo = .bool true ∧ ii = .int .i64 i ∧ Hid (KSit wr p A1 ps (quietK i) ∧ Grow (UA A) w2 (UA A1) ∧ Fr (UA A) w2 wr) ∧ Hid (KOk (quietK i) (1 + 8 * i))) (fun _ ii _ => s + 1 - (intOf ii).toNat)
  case atStart => exact ⟨0, A, by omega, rfl, rfl, ⟨HS.out, Grow.refl _ _, Fr.refl _ _⟩, HK0.out⟩
  case round =>
    clear HS HK0
    obtain ⟨i, A1, hi, rfl, rfl, hS, hO⟩ := hrel
    have hi0 : (0 : Int) ≤ (i : Int) := by omega
    by_cases his : i ≤ s
    · have hiI : (i : Int) ≤ (s : Int) := by omega
      have HQS : Hid ((quietK i).allTick 4 0 = (quietK (i + 1), true)) := quiet_step i (by omega)
      obtain ⟨Kn, hKn⟩ : ∃ K, K = quietK (i + 1) := ⟨_, rfl⟩
      have HKn : Hid (quietK (i + 1) = Kn) := hKn.symm
      rw [← hKn] at HQS
      clear hKn
      generalize quietK i = Ki at HQS hS hO
      go_wp2
      go_loopw [7, 9] (fun oo kk wq => ∃ (k : Nat) (A2 : Nat → Nat → Prop) (K : Clu), k ≤ 4 ∧ oo = .bool true ∧ kk = .int .i64 k ∧ Hid (KSit wq p A2 ps K ∧ Grow (UA A) w2 (UA A2) ∧ Fr (UA A) w2 wq) ∧ Hid (KOk K (1 + 8 * i + 2 * k)) ∧ Hid (K.allTick (4 - k) k = (Kn, true))) (fun _ kk _ => 4 - (intOf kk).toNat)
      case atStart => exact ⟨0, A1, Ki, by omega, rfl, rfl, hS.out, hO.out, HQS.out⟩
      case round =>
        clear hS hO HQS
        obtain ⟨k, A2, K, hk, rfl, rfl, hS, hO, hE⟩ := hrel
        have hk0 : (0 : Int) ≤ (k : Int) := by omega
        by_cases hk4 : k < 4
        · have hkI : (k : Int) < 4 := by omega
          have hst : (K.ticks k).2 = true ∧ (K.ticks k).1.allTick (4 - (k + 1)) (k + 1) = (Kn, true) := by
            have h1 := hE.out
            rw [show 4 - k = (4 - (k + 1)) + 1 by omega, allTick_step] at h1
            cases hb : (K.ticks k).2 with
            | true => rw [hb] at h1; exact ⟨rfl, h1⟩
            | false => rw [hb] at h1; rw [show (if false = true then _ else K.ticks k) = K.ticks k from rfl] at h1; rw [h1] at hb; cases hb
          have HH : Hid (Calls Tryd.prog 22 #[.pointer (some ⟨p, 0, none⟩), .agg #[.int .i64 1, .int .i64 k, .int .i64 0]] wr fun e w' => e = .returned (.bool true) ∧ KGoes wr w' p A2 ps (K.ticks k).1) := by
            have h1 := khappens1 wr p A2 ps K hS.out.1 _ hO.out (by omega) k 0 (by omega) (by omega)
            rw [pick_small hk4, hst.1] at h1
            exact h1
          have HO2 : Hid (KOk (K.ticks k).1 (1 + 8 * i + 2 * (k + 1))) := ticks_kok hO.out hk4
          have HE2 : Hid ((K.ticks k).1.allTick (4 - (k + 1)) (k + 1) = (Kn, true)) := hst.2
          clear hE hst
          generalize (K.ticks k).1 = K2 at *
          go_wp2_with (go_at_call 22; refine HH.out.mono ?_; rintro e w3 ⟨rfl, hg3⟩; have HG3 : Hid (KGoes wr w3 p A2 ps K2) := hg3; clear hg3)
          go_roundw
          case rel =>
            obtain ⟨A3, z1, z2⟩ := HG3.out.ex
            exact ⟨k + 1, A3, K2, by omega, rfl, by go_num, ⟨z1, hS.out.2.1.trans hS.out.2.2.size z2, hS.out.2.2.grow hS.out.2.1 HG3.out.fr⟩, HO2.out, HE2.out⟩
          case measure => simp [intOf]; omega
        · have hkI : ¬ (k : Int) < 4 := by omega
          have hke : k = 4 := by omega
          subst hke
          have HKe : Hid (K = Kn) := congrArg Prod.fst hE.out
          go_wp2
          go_roundw
          case rel => exact ⟨i + 1, A2, by omega, rfl, by go_num, by rw [HKn.out, ← HKe.out]; exact hS.out, by rw [HKn.out, ← HKe.out]; exact hO.out.mono (by omega)⟩
          case measure => simp [intOf]; omega
    · have hiI : ¬ (i : Int) ≤ (s : Int) := by omega
      have hie : i = s + 1 := by omega
      subst hie
      generalize quietK (s + 1) = K at *
      have v0 := (hS.out.1.vcells 0 (by omega)).1
      rw [(HR2.out 0 (by omega)).2] at v0
      obtain ⟨al, cl, q2, hrow⟩ := hS.out.1.lcells
      obtain ⟨N, hN⟩ : ∃ N, N = K.letters.length := ⟨_, rfl⟩
      rw [← hN] at q2
      have hN4 : N = 4 * (s + 1) := hN.trans HR1.out
      obtain ⟨a, ha⟩ : ∃ a, a = 4 * s := ⟨_, rfl⟩
      have hNa : (N : Int) - 4 = (a : Int) := by omega
      have HNA : Hid ((N : Int) - 4 = (a : Int)) := hNa
      have hN0 : (4 : Int) ≤ (N : Int) := by omega
      have hN1 : (N : Int) ≤ 120 := by omega
      have HA4 : Hid (a = 4 * s ∧ N = a + 4) := ⟨ha, by omega⟩
      have HNL : Hid (N = K.letters.length) := hN
      have HRW : Hid (Row wr (A1 0) 42 20 (.slice al K.letters.length cl) K.letters.length (K.letters.flatMap Ltr.cells)) := hrow
      obtain ⟨g, off, rfl, _, _, hcl⟩ := hrow.place (by omega)
      clear hN hN4 ha hNa hrow
      go_upto_region 16 with fail
      go_wp2
      go_loopw [11] (fun kk w' => ∃ (j : Nat), j ≤ 4 ∧ kk = .int .i64 j ∧ Hid (w' = wr)) (fun kk _ => 4 - (intOf kk).toNat)
      case atStart => exact ⟨0, by omega, rfl, rfl⟩
      case round =>
        obtain ⟨j, hj, rfl, hw3⟩ := hrel
        obtain rfl := hw3.out
        have hj0 : (0 : Int) ≤ (j : Int) := by omega
        by_cases hj4 : j < 4
        · have hjI : (j : Int) < 4 := by omega
          obtain ⟨av, cap, hwc, _⟩ := hS.out.1.wcells j hj4
          have hwv := (hS.out.1.vcells j hj4).1
          rw [(HR2.out j hj4).1] at hwc
          rw [(HR2.out j hj4).2] at hwv
          go_wp2
          go_roundw
          case rel => exact ⟨j + 1, by omega, by go_num, by first | exact trivial | exact rfl⟩
          case measure => simp [intOf]; omega
        · have hjI : ¬ (j : Int) < 4 := by omega
          go_upto_region 22 with fail
          rw [HNA.out]
          go_wp2
          go_loopw [13] (fun kk w' => ∃ (j : Nat), a ≤ j ∧ j ≤ N ∧ kk = .int .i64 j ∧ Hid (w' = wr)) (fun kk _ => N - (intOf kk).toNat)
          case atStart => exact ⟨a, by omega, by have := HA4.out; omega, rfl, rfl⟩
          case round =>
            obtain ⟨j, hja, hjN, rfl, hw3⟩ := hrel
            obtain rfl := hw3.out
            have hj0 : (0 : Int) ≤ (j : Int) := by omega
            by_cases hjl : j < N
            · have hjI : (j : Int) < (N : Int) := by omega
              have hjK : j < K.letters.length := by rw [← HNL.out]; exact hjl
              obtain ⟨k1, k2, k3⟩ := HR3.out j hjK (by have := HA4.out; omega)
              have f20 : ∀ l : Ltr, l.cells.length = 20 := fun _ => rfl
              have e0 := HRW.out.elem f20 j 0 hjK (by omega)
              have e1 := HRW.out.elem f20 j 1 hjK (by omega)
              have e3 := HRW.out.elem f20 j 3 hjK (by omega)
              generalize K.letters[j] = l at k1 k2 k3 e0 e1 e3
              obtain ⟨l0, ⟨xk, xf, xv, bl, nu, ct, sl⟩⟩ := l
              dsimp only at k1 k2 k3
              rw [← Int.tmod_eq_emod_of_nonneg (by omega)] at k3
              subst k1 k2 k3
              have c0 : wr.cell? ⟨g, off + j * 20, none⟩ = some (.int .i64 (((s : Int) + 2).tmod 4)) := e0
              have c1 : wr.cell? ⟨g, off + j * 20 + 1, none⟩ = some (.int .i64 3) := by rw [Nat.add_assoc]; exact e1
              have c3 : wr.cell? ⟨g, off + j * 20 + 3, none⟩ = some (.int .i64 ((s : Int) + 2)) := by rw [Nat.add_assoc]; exact e3
              clear e0 e1 e3 f20
              go_wp2
              go_roundw
              case rel => exact ⟨j + 1, by omega, by omega, by go_num, by first | exact trivial | exact rfl⟩
              case measure => simp [intOf]; omega
            · have hjI : ¬ (j : Int) < (N : Int) := by omega
              have HF : Hid (Calls Tryd.prog 23 #[.pointer (some ⟨p, 0, none⟩), .int .i64 a, .int .i64 (60 + (b : Int))] wr fun e w' => (∃ n : Int, e = .returned (.tuple #[.int .i64 n, .bool true])) ∧ KGoes wr w' p A1 ps Kf ∧ KOk Kf (2000)) := by
                have h1 := kflows wr p A1 ps K hS.out.1 _ hO.out (4 * s) (60 + b) (by omega) (by omega)
                rw [HR5.out] at h1
                have e1 : ((60 + b : Nat) : Int) = 60 + (b : Int) := by omega
                have e2 : ((4 * s : Nat) : Int) = (a : Int) := by have := HA4.out; omega
                rw [e1, e2] at h1
                exact h1.mono (fun e w' h => ⟨⟨_, h.1⟩, h.2.1, h.2.2.mono (by omega)⟩)
              clear HR5 HR3 HRW
              go_upto_region 28 with (first | (go_at_call 13; refine (HP2.out _).mono ?_; rintro e w9 ⟨rfl, rfl⟩) | (go_at_call 23; refine HF.out.mono ?_; rintro e w3 ⟨⟨nn, rfl⟩, hg3, hok3⟩; have HG3 : Hid (KGoes wr w3 p A1 ps Kf) := hg3; have HO3 : Hid (KOk Kf 2000) := hok3; clear hg3 hok3))
              have HBB : Hid (Below w.heap.size w w3) := kbelow HBE.out (hS.out.2.2.grow hS.out.2.1 HG3.out.fr) HNE.out
              obtain ⟨A3, hs3, _⟩ := HG3.out.ex
              have HS3 : Hid (KSit w3 p A3 ps Kf) := hs3
              have hov := hs3.over
              rw [HR6.out.1] at hov
              have HAG : Hid (Calls Tryd.prog 24 #[.pointer (some ⟨p, 0, none⟩)] w3 fun e w' => e = .returned (.bool true) ∧ Below w3.heap.size w3 w') := by
                have h1 := kagree w3 p A3 ps Kf hs3 (fun k => by have := HO3.out.wl k; omega)
                rw [HR6.out.2] at h1
                exact h1
              clear hs3 HG3 HF hS q2 v0
              go_wp2
              go_loopw [16] (fun kk w' => ∃ (j : Nat), j ≤ 4 ∧ kk = .int .i64 j ∧ Hid (w' = w3)) (fun kk _ => 4 - (intOf kk).toNat)
              case atStart => exact ⟨0, by omega, rfl, rfl⟩
              case round =>
                obtain ⟨j, hj, rfl, hw3⟩ := hrel
                obtain rfl := hw3.out
                have hj0 : (0 : Int) ≤ (j : Int) := by omega
                by_cases hj4 : j < 4
                · have hjI : (j : Int) < 4 := by omega
                  obtain ⟨av, cap, hwc, _⟩ := HS3.out.wcells j hj4
                  have hwv := (HS3.out.vcells j hj4).1
                  obtain ⟨g1, g2⟩ := HR8.out j hj4
                  generalize (Kf.was j).log.length = ln at hwc g1
                  generalize (Kf.was j).view = lv at hwv g2
                  have hl1 : ((ln : Int) == 0) = false := beq_eq_false_iff_ne.2 (by omega)
                  have hv1 : ¬ lv ≤ (s : Int) + 2 + 4 := by omega
                  clear g1 g2
                  go_wp2
                  go_roundw
                  case rel => exact ⟨j + 1, by omega, by go_num, by first | exact trivial | exact rfl⟩
                  case measure => simp [intOf]; omega
                · have hjI : ¬ (j : Int) < 4 := by omega
                  go_wp2_with (go_at_call 24; refine HAG.out.mono ?_; rintro e w4 ⟨rfl, hb4⟩; have HB4 : Hid (Below wr.heap.size wr w4) := hb4; clear hb4)
                  go_ret
                  exact ⟨rfl, bnext HBB.out HB4.out⟩
end Go.Proofs.YtkehpnobidendaaDoor

namespace Go.Proofs.YtkehpnobidendaaDoor
open Go.RowKit
def gE : List (TypeId × Nat) := [(9, 1), (9, 1), (9, 1), (9, 1)]
def gX (q : Nat → List ByteArray) : List (Nat × List Value) := [((q 0).length, (q 0).flatMap scells), ((q 1).length, (q 1).flatMap scells), ((q 2).length, (q 2).flatMap scells), ((q 3).length, (q 3).flatMap scells)]
/-- The four lists of commands. -/
structure GvMem (w : World) (g : Nat) (S : Nat → Prop) (q : Nat → List ByteArray) : Prop where
  ex : ∃ f : Nat → Value, Bun w g 52 S #[f 0, f 1, f 2, f 3] [f 0, f 1, f 2, f 3] gE (gX q)
theorem GvMem.new (w : World) : GvMem (w.alloc (.cells #[.slice none 0 0, .slice none 0 0, .slice none 0 0, .slice none 0 0] 52)) w.heap.size (fun b => b = w.heap.size) (fun _ => []) := by
  refine ⟨fun _ => .slice none 0 0, rfl, heap_alloc_new w _, fun i v e x h1 h2 h3 => ?_, fun i v h1 => ?_, fun i j v u k h1 h2 _ hk => ?_, ⟨by decide, by decide⟩, fun k hk => ?_⟩
  · have hi : i < 4 := (List.getElem?_eq_some_iff.1 h1).1
    rcases (by omega : i = 0 ∨ i = 1 ∨ i = 2 ∨ i = 3) with rfl | rfl | rfl | rfl <;> (cases h1; cases h2; cases h3; exact Row.nil _ _ _ _)
  · have hi : i < 4 := (List.getElem?_eq_some_iff.1 h1).1
    rcases (by omega : i = 0 ∨ i = 1 ∨ i = 2 ∨ i = 3) with rfl | rfl | rfl | rfl <;> (cases h1; exact fun h => by cases h)
  · have hi : i < 4 := (List.getElem?_eq_some_iff.1 h1).1
    rcases (by omega : i = 0 ∨ i = 1 ∨ i = 2 ∨ i = 3) with rfl | rfl | rfl | rfl <;> (cases h1; cases hk)
  · rw [hk, World.size_alloc]; omega
section
variable {w w' : World} {g : Nat} {S Z : Nat → Prop} {q : Nat → List ByteArray}
theorem GvMem.below (h : GvMem w g S q) (hf : Below w.heap.size w w') : GvMem w' g S q := by
  obtain ⟨f, h1⟩ := h.ex
  exact ⟨f, h1.below hf⟩
theorem GvMem.fr (h : GvMem w g S q) (hf : Fr Z w w') (hz : ∀ k, S k → ¬ Z k) : GvMem w' g S q := by
  obtain ⟨f, h1⟩ := h.ex
  exact ⟨f, h1.fr hf hz⟩
theorem GvMem.lt (h : GvMem w g S q) : ∀ b, S b → b < w.heap.size := by
  obtain ⟨f, h1⟩ := h.ex
  exact h1.lt
/-- Where a list lies. -/
theorem GvMem.at (h : GvMem w g S q) (k : Nat) (hk : k < 4) : ∃ a cap, w.cell? ⟨g, k, none⟩ = some (.slice a (q k).length cap) ∧ w.frozen? ⟨g, k, none⟩ = false ∧ Row w S 9 1 (.slice a (q k).length cap) (q k).length ((q k).flatMap scells) := by
  obtain ⟨f, h1⟩ := h.ex
  have hr : Row w S 9 1 (f k) (q k).length ((q k).flatMap scells) := by
    rcases (by omega : k = 0 ∨ k = 1 ∨ k = 2 ∨ k = 3) with rfl | rfl | rfl | rfl
    · exact h1.row 0 _ _ _ rfl rfl rfl
    · exact h1.row 1 _ _ _ rfl rfl rfl
    · exact h1.row 2 _ _ _ rfl rfl rfl
    · exact h1.row 3 _ _ _ rfl rfl rfl
  obtain ⟨a, cap, e⟩ := hr.isSlice
  rw [e] at hr
  refine ⟨a, cap, ?_, free_at h1.box k, hr⟩
  rw [← e, cell_at h1.box]
  rcases (by omega : k = 0 ∨ k = 1 ∨ k = 2 ∨ k = 3) with rfl | rfl | rfl | rfl <;> rfl
end
def addQ (q : Nat → List ByteArray) (k : Nat) (s : ByteArray) : Nat → List ByteArray := fun j => if j = k then q k ++ [s] else q j
def appS (args : Array Value) : Sem Value := Builtin.append_ #[43, 43] 43 args
theorem app_s (args : Array Value) : Builtin.append_ #[43, 43] 43 args = appS args := rfl
theorem Bun.app0 {w : World} {p : Nat} {T : TypeId} {S : Nat → Prop} {C : Array Value} {V : List Value} {E : List (TypeId × Nat)} {X : List (Nat × List Value)} (h : Bun w p T S C V E X) (i : Nat) {v : Value} (hv : V[i]? = some v) {e : TypeId} {size : Nat} (he : E[i]? = some (e, size)) {n : Nat} {xs : List Value} (hx : X[i]? = some (n, xs)) (ty : TypeId) (hty : Tryd.prog.underlying ty = some (.slice e)) {z : Value} {bytes : Nat} (hinfo : (Tryd.prog.info? e).map (fun i => (i.zero, i.size, i.bytes)) = some (some z, size, bytes)) (hzs : z.cells.size = size) (cs : List Value) (hcs : cs.length = 1 * size) (h1 : ∀ u ∈ cs, u.oneCell' = true) (hn : n + 1 ≤ maxLen) (hby : (n + 1) * bytes ≤ 140737488355328) :
    ∃ a' c' w1, (Builtin.append_ #[ty, ty] ty #[v, .slice (some ⟨w.heap.size, 0, none⟩) 1 1]).run Tryd.prog (w.alloc (.cells cs.toArray e)) = .ok (.slice a' (n + 1) c') w1 ∧ Row w1 (fun k => v.ownBlock = some k ∨ k = (w.alloc (.cells cs.toArray e)).heap.size) e size (.slice a' (n + 1) c') (n + 1) (xs ++ cs) ∧ Fr (fun k => v.ownBlock = some k) (w.alloc (.cells cs.toArray e)) w1 := by
  obtain ⟨i0, hi0, hz0, hz1, hz2⟩ := info_parts hinfo
  have hr := (h.alloc (.cells cs.toArray e)).row i v (e, size) (n, xs) hv he hx
  obtain ⟨v', w1, hrun, hr', hf⟩ := run_append_row Tryd.prog (w.alloc (.cells cs.toArray e)) S ty ty e i0 z size bytes hty hi0 hz0 hz1 hz2 hzs v n xs hr ⟨w.heap.size, 0, none⟩ 1 1 cs hcs (new_cells w cs e rfl) h1 (by omega) hn hby
  obtain ⟨a', c', rfl⟩ := hr'.isSlice
  exact ⟨a', c', w1, hrun, hr', hf⟩
/-- What an append leaves: ahead of the store, and behind it. -/
structure GApp (w w1 : World) (g : Nat) (S : Nat → Prop) (q' : Nat → List ByteArray) (k : Nat) (old new : Value) : Prop where
  c0 : w.cell? ⟨g, k, none⟩ = some old
  ca : ∀ ob, (w.alloc ob).cell? ⟨g, k, none⟩ = some old
  c1 : w1.cell? ⟨g, k, none⟩ = some old
  f1 : w1.frozen? ⟨g, k, none⟩ = false
  ex : ∃ S', GvMem (w1.setCell ⟨g, k, none⟩ new) g S' q' ∧ Grow S w S' ∧ Fr S w (w1.setCell ⟨g, k, none⟩ new)
theorem GvMem.app {w : World} {g : Nat} {S : Nat → Prop} {q : Nat → List ByteArray} (h : GvMem w g S q) (k : Nat) (hk : k < 4) (s : ByteArray) (hn : (q k).length ≤ 1000) :
    ∃ al cl a' c' w1, (appS #[.slice al (q k).length cl, .slice (some ⟨w.heap.size, 0, none⟩) 1 1]).run Tryd.prog (w.alloc (.cells #[.string s] 9)) = .ok (.slice a' ((q k).length + 1) c') w1 ∧ GApp w w1 g S (addQ q k s) k (.slice al (q k).length cl) (.slice a' ((q k).length + 1) c') := by
  obtain ⟨f, hB⟩ := h.ex
  have hv : [f 0, f 1, f 2, f 3][k]? = some (f k) := by rcases (by omega : k = 0 ∨ k = 1 ∨ k = 2 ∨ k = 3) with rfl | rfl | rfl | rfl <;> rfl
  have he : gE[k]? = some (9, 1) := by rcases (by omega : k = 0 ∨ k = 1 ∨ k = 2 ∨ k = 3) with rfl | rfl | rfl | rfl <;> rfl
  have hx : (gX q)[k]? = some ((q k).length, (q k).flatMap scells) := by rcases (by omega : k = 0 ∨ k = 1 ∨ k = 2 ∨ k = 3) with rfl | rfl | rfl | rfl <;> rfl
  have hRL : Row w S 9 1 (f k) (q k).length ((q k).flatMap scells) := hB.row k _ _ _ hv he hx
  obtain ⟨al, cl, e⟩ := hRL.isSlice
  obtain ⟨a', c', w1, hrun, hr', hf⟩ := hB.app0 k hv he hx 43 Tryd.underlying43 info_string rfl [.string s] rfl (by simp [Value.oneCell']) (by unfold maxLen; omega) (by omega)
  have hb7 := (hB.alloc _).after k hv hf
  have hc : ∀ W : World, W.heap[g]? = some (.cells #[f 0, f 1, f 2, f 3] 52 (0, 0)) → W.cell? ⟨g, k, none⟩ = some (.slice al (q k).length cl) := fun W hW => by
    rw [cell_at hW, ← e]
    rcases (by omega : k = 0 ∨ k = 1 ∨ k = 2 ∨ k = 3) with rfl | rfl | rfl | rfl <;> rfl
  refine ⟨al, cl, a', c', w1, by rw [← e]; exact hrun, hc _ hB.box, fun o => hc _ (hB.alloc o).box, hc _ hb7, free_at hb7 k, fun b => S b ∨ (Value.slice a' ((q k).length + 1) c').ownBlock = some b, ⟨fun j => if j = k then .slice a' ((q k).length + 1) c' else f j, ?_⟩, ?_, ?_⟩
  · refine (hB.alloc _).put k hv he _ ((q k).length + 1, (q k).flatMap scells ++ [.string s]) hr' hf k ?_ ?_ ?_
    · rcases (by omega : k = 0 ∨ k = 1 ∨ k = 2 ∨ k = 3) with rfl | rfl | rfl | rfl <;> rfl
    · rcases (by omega : k = 0 ∨ k = 1 ∨ k = 2 ∨ k = 3) with rfl | rfl | rfl | rfl <;> rfl
    · rcases (by omega : k = 0 ∨ k = 1 ∨ k = 2 ∨ k = 3) with rfl | rfl | rfl | rfl <;> simp [gX, addQ, scells]
  · exact grow_put hr' (by simp) (fun b hb => (hRL.ownS hb).1)
  · exact (hB.alloc _).frPut (S := S) (w := w) (Fr.alloc S w _) k hv hf k _
/-- All of it. -/
structure FSit (w0 w : World) (p g : Nat) (A : Nat → Nat → Prop) (ps : List (Option Nat)) (K : Clu) (S : Nat → Prop) (q : Nat → List ByteArray) : Prop where
  k : KSit w p A ps K
  g : GvMem w g S q
  d : ∀ b, S b → ¬ UA A b
  na : ∀ b, UA A b → w0.heap.size ≤ b
  ns : ∀ b, S b → w0.heap.size ≤ b
  b : Below w0.heap.size w0 w
  p0 : 0 < w0.heap.size
section
variable {w0 w w' : World} {p g : Nat} {A : Nat → Nat → Prop} {ps : List (Option Nat)} {K K' : Clu} {S S' : Nat → Prop} {q q' : Nat → List ByteArray}
theorem below_fr {Z : Nat → Prop} (hb : Below w0.heap.size w0 w) (hf : Fr Z w w') (hz : ∀ b, Z b → w0.heap.size ≤ b) : Below w0.heap.size w0 w' :=
  ⟨hf.os.trans hb.os, hf.tape.trans hb.tape, hf.output.trans hb.output, Nat.le_trans hb.size hf.size, fun b hb2 => (hf.block b (Nat.lt_of_lt_of_le hb2 hb.size) (fun h1 => by have := hz b h1; omega)).trans (hb.block b hb2)⟩
theorem FSit.goes (h : FSit w0 w p g A ps K S q) (hg : KGoes w w' p A ps K') : ∃ A', FSit w0 w' p g A' ps K' S q := by
  obtain ⟨A', h1, h2⟩ := hg.ex
  refine ⟨A', h1, h.g.fr hg.fr h.d, fun b hb hu => ?_, fun b hu => ?_, h.ns, below_fr h.b hg.fr h.na, h.p0⟩
  · rcases h2 b hu with h3 | h3
    · exact h.d b hb h3
    · have := h.g.lt b hb; omega
  · rcases h2 b hu with h3 | h3
    · exact h.na b h3
    · have := h.b.size; omega
theorem FSit.below (h : FSit w0 w p g A ps K S q) (hb : Below w.heap.size w w') : FSit w0 w' p g A ps K S q :=
  ⟨h.k.below hb, h.g.below hb, h.d, h.na, h.ns, below_fr (Z := fun _ => False) h.b (Fr.of_below hb) (fun _ h => h.elim), h.p0⟩
theorem FSit.put (h : FSit w0 w p g A ps K S q) (hg : GvMem w' g S' q') (hgr : Grow S w S') (hf : Fr S w w') : FSit w0 w' p g A ps K S' q' := by
  refine ⟨h.k.fr hf (fun b hb hs => h.d b hs hb) (fun h0 => ?_), hg, fun b hb hu => ?_, h.na, fun b hb => ?_, below_fr h.b hf h.ns, h.p0⟩
  · have := h.ns 0 h0; have := h.p0; omega
  · rcases hgr b hb with h1 | h1
    · exact h.d b h1 hu
    · obtain ⟨i, hi, hA⟩ := hu
      have := h.k.lt i b hi hA; omega
  · rcases hgr b hb with h1 | h1
    · exact h.ns b h1
    · have := h.b.size; omega
end
/-- What was given so far, plain. -/
structure Giv (q : Nat → List ByteArray) (K : Clu) (i : Nat) : Prop where
  s : Start q K
  c : K.count = (i : Int)
  z : ∀ j, ∀ c ∈ q j, c.size ≤ 16
  l : ∀ j, (q j).length ≤ 8
theorem giv_zero : Giv (fun _ => []) (Clu.begins (-1) 50) 0 := by
  refine ⟨⟨⟨rfl, rfl, rfl, fun t ht => (by cases ht), rfl, fun u w hu hw _ => (by omega), rfl⟩, fun k hk => ?_⟩, rfl, fun j c hc => (by cases hc), fun j => Nat.zero_le _⟩
  rcases (by omega : k = 0 ∨ k = 1 ∨ k = 2 ∨ k = 3) with rfl | rfl | rfl | rfl <;> exact ⟨rfl, rfl⟩
theorem giv_full {q : Nat → List ByteArray} {K : Clu} {i k : Nat} (h : Giv q K i) (hk : k < 4) {s : ByteArray} (hs : s.size ≤ 16) (h8 : 8 ≤ (q k).length) : (mem0 q k).submit s = (mem0 q k, 6) ∧ Giv q (({ K with count := ((i + 1 : Nat) : Int) } : Clu).setMem k (mem0 q k)) (i + 1) := by
  constructor
  · unfold Mem.submit
    rw [if_neg (by omega), if_pos (show 8 ≤ (mem0 q k).queue.length from h8)]
  · refine ⟨⟨⟨h.s.b.li, h.s.b.lt, ?_, h.s.b.vd, h.s.b.bb, h.s.b.di, h.s.b.ov⟩, fun j hj => ?_⟩, rfl, h.z, h.l⟩
    · show (K.mem.set k _).length = 4; rw [List.length_set]; exact h.s.b.ml
    · rw [memAt_set' (by show k < K.mem.length; rw [h.s.b.ml]; exact hk)]
      refine ⟨?_, (h.s.ms j hj).2⟩
      by_cases e : j = k
      · rw [if_pos e, e]
      · rw [if_neg e]; exact (h.s.ms j hj).1
theorem giv_more {q : Nat → List ByteArray} {K : Clu} {i k : Nat} (h : Giv q K i) (hk : k < 4) {s : ByteArray} (hs : s.size ≤ 16) (h8 : ¬ 8 ≤ (q k).length) : (mem0 q k).submit s = (mem0 (addQ q k s) k, 0) ∧ Giv (addQ q k s) (({ K with count := ((i + 1 : Nat) : Int) } : Clu).setMem k (mem0 (addQ q k s) k)) (i + 1) := by
  have hq : addQ q k s k = q k ++ [s] := if_pos rfl
  constructor
  · unfold Mem.submit
    rw [if_neg (by omega), if_neg (show ¬ 8 ≤ (mem0 q k).queue.length from h8)]
    show ({ mem0 q k with queue := q k ++ [s] }, (0 : Int)) = _
    unfold mem0
    rw [hq]
  · refine ⟨⟨⟨h.s.b.li, h.s.b.lt, ?_, h.s.b.vd, h.s.b.bb, fun u w hu hw _ => (by omega), h.s.b.ov⟩, fun j hj => ?_⟩, rfl, fun j c hc => ?_, fun j => ?_⟩
    · show (K.mem.set k _).length = 4; rw [List.length_set]; exact h.s.b.ml
    · rw [memAt_set' (by show k < K.mem.length; rw [h.s.b.ml]; exact hk)]
      refine ⟨?_, (h.s.ms j hj).2⟩
      by_cases e : j = k
      · rw [if_pos e, e]
      · rw [if_neg e]
        have : mem0 (addQ q k s) j = mem0 q j := by unfold mem0 addQ; rw [if_neg e]
        rw [this]; exact (h.s.ms j hj).1
    · unfold addQ at hc
      split at hc
      · rcases List.mem_append.1 hc with h1 | h1
        · exact h.z k c h1
        · rw [List.mem_singleton.1 h1]; exact hs
      · exact h.z j c hc
    · unfold addQ
      split
      · rw [List.length_append]; show _ + 1 ≤ 8; omega
      · exact h.l j
theorem count_kok {K : Clu} {n : Nat} (h : KOk K n) (c : Int) : KOk { K with count := c } n := ⟨⟨h.ok.bl, h.ok.vt, h.ok.l0, h.ok.l1⟩, ⟨h.len.lt, h.len.ct, h.len.vt, h.len.bl⟩, h.lt, h.ml, h.ms, h.wl⟩
end Go.Proofs.YtkehpnobidendaaDoor

namespace Go.Proofs.YtkehpnobidendaaDoor
open Go.RowKit

noncomputable def kflB5 : Code := ((Tryd.f5.body.map loopsOf).getD []).getD 4 .skip
noncomputable def kflB3 : Code := ((Tryd.f5.body.map loopsOf).getD []).getD 2 .skip
noncomputable def kflB4 : Code := ((Tryd.f5.body.map loopsOf).getD []).getD 3 .skip
theorem cmdN_in {q : Nat → List ByteArray} {u r t : Nat} (hr : (u + 1) % 4 = r) (ht : u / 4 = t) (h : t < (q r).length) : cmdN q (u + 1) = (q r)[t] := by
  subst hr ht
  unfold cmdN
  rw [show u + 1 - 1 = u from rfl, List.getD_eq_getElem?_getD, List.getElem?_eq_getElem h]; rfl
theorem cmdN_out {q : Nat → List ByteArray} {u r t : Nat} (hr : (u + 1) % 4 = r) (ht : u / 4 = t) (h : ¬ t < (q r).length) : cmdN q (u + 1) = ⟨#[]⟩ := by
  subst hr ht
  unfold cmdN
  rw [show u + 1 - 1 = u from rfl, List.getD_eq_getElem?_getD, List.getElem?_eq_none (by omega)]; rfl
set_option maxRecDepth 1000000 in
set_option maxHeartbeats 8000000 in
theorem kfl_loop5 {y0 y1 y2 y3 y4 y5 y6 y7 y9 y10 y11 y12 y13 y14 y15 y16 y17 y18 y19 y22 y23 y24 y25 y26 y27 y28 y29 y30 y31 y32 y33 y34 y35 y36 y37 y38 y39 y40 y41 y42 y43 y44 y45 y46 y47 y48 y49 y50 y51 y52 y53 y54 y55 y56 y57 y58 y59 y60 y61 y62 y63 y64 y65 y66 y67 y68 y69 y70 y71 y72 y73 y74 y75 y76 y77 y78 y79 y80 y81 y82 y83 y84 y85 y86 y87 y88 y89 y90 y91 y92 y93 y94 y95 y96 y97 y98 y99 y100 y101 y102 y103 y104 y105 y106 y107 y108 y109 y110 y111 y112 y113 y114 y115 y116 y117 y118 y119 y120 y121 y122 y123 y124 y125 y126 y127 y128 y129 y130 y131 y132 y133 y134 y135 y136 y137 y138 y139 y140 y141 y142 y143 y144 y145 y146 y147 y148 y149 y150 y151 y152 y153 y154 y155 y156 y157 y158 y159 y160 y161 y162 y163 y164 y165 y166 y167 y168 y169 y170 y171 y172 y173 y174 y175 y176 y177 y178 y179 y180 y181 y182 y183 y184 y185 y186 y187 y188 y189 y190 y191 y192 y193 y194 y195 y196 y197 y198 y199 y200 y201 y202 y203 y204 y205 y206 y207 y208 y209 y210 y211 y212 y213 y214 y215 y216 y217 y218 y219 y220 y221 y222 y223 y224 y225 y226 y227 y228 y229 y230 y231 y232 y233 y234 y235 y236 y237 y238 y239 y240 y241 y242 y243 y244 y245 y246 : Value} {g n cap : Nat} {av : Option Addr} {q : Nat → List ByteArray} {V : World} {Q : Exit → Act → World → Prop}
    (HG : Hid (∀ k, k < 4 → ∃ a c, V.cell? ⟨g, k, none⟩ = some (.slice a (q k).length c) ∧ (q k).length ≤ 8 ∧ ∀ t (ht : t < (q k).length), ∃ g' o', a = some ⟨g', o', none⟩ ∧ V.cell? ⟨g', o' + t, none⟩ = some (.string (q k)[t]))) (hn : n ≤ 5000)
    (HL : Hid (∀ t, t < n → ∃ gl ol, av = some ⟨gl, ol, none⟩ ∧ V.cell? ⟨gl, ol + t, none⟩ = some (.string (cmdN q (t + 1)))))
    (HEX : Hid (∀ {v4 v21 v22 v23 v209 v210 v211 v212 v213 v214 v215 v216 v217 v218 v219 v220 v221 v222 v223 v224 v225 v226 v227 v228 v229 v230 v231 v232 v233 v234 v235 v236 v237 v238 v239 v240 v241 v242 v243 v244 : Value}, Q (.exit 8) ⟨List.toArray (y0 :: y1 :: y2 :: y3 :: v4 :: y5 :: y6 :: y7 :: .pointer (some ⟨g, 0, none⟩) :: y9 :: y10 :: y11 :: y12 :: y13 :: y14 :: y15 :: y16 :: y17 :: y18 :: y19 :: .slice av n cap :: v21 :: v22 :: v23 :: y24 :: y25 :: y26 :: y27 :: y28 :: y29 :: y30 :: y31 :: y32 :: y33 :: y34 :: y35 :: y36 :: y37 :: y38 :: y39 :: y40 :: y41 :: y42 :: y43 :: y44 :: y45 :: y46 :: y47 :: y48 :: y49 :: y50 :: y51 :: y52 :: y53 :: y54 :: y55 :: y56 :: y57 :: y58 :: y59 :: y60 :: y61 :: y62 :: y63 :: y64 :: y65 :: y66 :: y67 :: y68 :: y69 :: y70 :: y71 :: y72 :: y73 :: y74 :: y75 :: y76 :: y77 :: y78 :: y79 :: y80 :: y81 :: y82 :: y83 :: y84 :: y85 :: y86 :: y87 :: y88 :: y89 :: y90 :: y91 :: y92 :: y93 :: y94 :: y95 :: y96 :: y97 :: y98 :: y99 :: y100 :: y101 :: y102 :: y103 :: y104 :: y105 :: y106 :: y107 :: y108 :: y109 :: y110 :: y111 :: y112 :: y113 :: y114 :: y115 :: y116 :: y117 :: y118 :: y119 :: y120 :: y121 :: y122 :: y123 :: y124 :: y125 :: y126 :: y127 :: y128 :: y129 :: y130 :: y131 :: y132 :: y133 :: y134 :: y135 :: y136 :: y137 :: y138 :: y139 :: y140 :: y141 :: y142 :: y143 :: y144 :: y145 :: y146 :: y147 :: y148 :: y149 :: y150 :: y151 :: y152 :: y153 :: y154 :: y155 :: y156 :: y157 :: y158 :: y159 :: y160 :: y161 :: y162 :: y163 :: y164 :: y165 :: y166 :: y167 :: y168 :: y169 :: y170 :: y171 :: y172 :: y173 :: y174 :: y175 :: y176 :: y177 :: y178 :: y179 :: y180 :: y181 :: y182 :: y183 :: y184 :: y185 :: y186 :: y187 :: y188 :: y189 :: y190 :: y191 :: y192 :: y193 :: y194 :: y195 :: y196 :: y197 :: y198 :: y199 :: y200 :: y201 :: y202 :: y203 :: y204 :: y205 :: y206 :: y207 :: y208 :: v209 :: v210 :: v211 :: v212 :: v213 :: v214 :: v215 :: v216 :: v217 :: v218 :: v219 :: v220 :: v221 :: v222 :: v223 :: v224 :: v225 :: v226 :: v227 :: v228 :: v229 :: v230 :: v231 :: v232 :: v233 :: v234 :: v235 :: v236 :: v237 :: v238 :: v239 :: v240 :: v241 :: v242 :: v243 :: v244 :: y245 :: y246 :: []), []⟩ V)) :
    Code.wp Tryd.prog (Code.loop kflB5) Q ⟨List.toArray (y0 :: y1 :: y2 :: y3 :: y4 :: y5 :: y6 :: y7 :: .pointer (some ⟨g, 0, none⟩) :: y9 :: y10 :: y11 :: y12 :: y13 :: y14 :: y15 :: y16 :: y17 :: y18 :: y19 :: .slice av n cap :: .int .i64 1 :: y22 :: y23 :: y24 :: y25 :: y26 :: y27 :: y28 :: y29 :: y30 :: y31 :: y32 :: y33 :: y34 :: y35 :: y36 :: y37 :: y38 :: y39 :: y40 :: y41 :: y42 :: y43 :: y44 :: y45 :: y46 :: y47 :: y48 :: y49 :: y50 :: y51 :: y52 :: y53 :: y54 :: y55 :: y56 :: y57 :: y58 :: y59 :: y60 :: y61 :: y62 :: y63 :: y64 :: y65 :: y66 :: y67 :: y68 :: y69 :: y70 :: y71 :: y72 :: y73 :: y74 :: y75 :: y76 :: y77 :: y78 :: y79 :: y80 :: y81 :: y82 :: y83 :: y84 :: y85 :: y86 :: y87 :: y88 :: y89 :: y90 :: y91 :: y92 :: y93 :: y94 :: y95 :: y96 :: y97 :: y98 :: y99 :: y100 :: y101 :: y102 :: y103 :: y104 :: y105 :: y106 :: y107 :: y108 :: y109 :: y110 :: y111 :: y112 :: y113 :: y114 :: y115 :: y116 :: y117 :: y118 :: y119 :: y120 :: y121 :: y122 :: y123 :: y124 :: y125 :: y126 :: y127 :: y128 :: y129 :: y130 :: y131 :: y132 :: y133 :: y134 :: y135 :: y136 :: y137 :: y138 :: y139 :: y140 :: y141 :: y142 :: y143 :: y144 :: y145 :: y146 :: y147 :: y148 :: y149 :: y150 :: y151 :: y152 :: y153 :: y154 :: y155 :: y156 :: y157 :: y158 :: y159 :: y160 :: y161 :: y162 :: y163 :: y164 :: y165 :: y166 :: y167 :: y168 :: y169 :: y170 :: y171 :: y172 :: y173 :: y174 :: y175 :: y176 :: y177 :: y178 :: y179 :: y180 :: y181 :: y182 :: y183 :: y184 :: y185 :: y186 :: y187 :: y188 :: y189 :: y190 :: y191 :: y192 :: y193 :: y194 :: y195 :: y196 :: y197 :: y198 :: y199 :: y200 :: y201 :: y202 :: y203 :: y204 :: y205 :: y206 :: y207 :: y208 :: y209 :: y210 :: y211 :: y212 :: y213 :: y214 :: y215 :: y216 :: y217 :: y218 :: y219 :: y220 :: y221 :: y222 :: y223 :: y224 :: y225 :: y226 :: y227 :: y228 :: y229 :: y230 :: y231 :: y232 :: y233 :: y234 :: y235 :: y236 :: y237 :: y238 :: y239 :: y240 :: y241 :: y242 :: y243 :: y244 :: y245 :: y246 :: []), []⟩ V := by
  conv => arg 2; arg 1; whnf
  have hnI : (n : Int) ≤ 5000 := by omega
  go_loopw [21] (fun vv w' => ∃ u : Nat, u ≤ n ∧ vv = .int .i64 ((u : Int) + 1) ∧ Hid (w' = V)) (fun vv _ => n + 1 - (intOf vv).toNat)
  case atStart => exact ⟨0, by omega, rfl, rfl⟩
  case round =>
    obtain ⟨u, hu, rfl, hw⟩ := hrel
    rw [hw.out]
    clear hw
    have hu0 : (0 : Int) ≤ (u : Int) := by omega
    have huN : (u : Int) ≤ 5000 := by omega
    by_cases hul : u < n
    rotate_left
    · have huI : ¬ (u : Int) + 1 ≤ (n : Int) := by omega
      go_wp2
      exact HEX.out
    · have huI : (u : Int) + 1 ≤ (n : Int) := by omega
      obtain ⟨r, hr⟩ : ∃ r, (u + 1) % 4 = r := ⟨_, rfl⟩
      obtain ⟨t, ht⟩ : ∃ t, u / 4 = t := ⟨_, rfl⟩
      have hr4 : r < 4 := by omega
      have hrI : (r : Int) < 4 := by omega
      have hr0 : (0 : Int) ≤ (r : Int) := by omega
      have ht0 : (0 : Int) ≤ (t : Int) := by omega
      have htN : (t : Int) ≤ 5000 := by omega
      have htm : ((u : Int) + 1).tmod 4 = (r : Int) := by rw [Int.tmod_eq_emod_of_nonneg (by omega)]; omega
      have htd : (u : Int).tdiv 4 = (t : Int) := by rw [Int.tdiv_eq_ediv_of_nonneg (by omega)]; omega
      obtain ⟨gl, ol, rfl, hlc⟩ := HL.out u hul
      obtain ⟨a, c, hgc, h8, hq⟩ := HG.out r hr4
      have h8I : ((q r).length : Int) ≤ 8 := by omega
      have HCI : Hid (∀ h : t < (q r).length, cmdN q (u + 1) = (q r)[t]) := fun h => cmdN_in hr ht h
      have HCO : Hid (¬ t < (q r).length → cmdN q (u + 1) = ⟨#[]⟩) := fun h => cmdN_out hr ht h
      by_cases htl : t < (q r).length
      · have htI : (t : Int) < ((q r).length : Int) := by omega
        obtain ⟨g', o', rfl, hqc⟩ := hq t htl
        rw [HCI.out htl] at hlc
        generalize (q r)[t] = s at hlc hqc
        by_cases hz : r = 0
        · subst hz
          have htd2 : ((u : Int) + 1).tdiv 4 = (t : Int) + 1 := by rw [Int.tdiv_eq_ediv_of_nonneg (by omega)]; omega
          clear hr ht hq HCI HCO
          go_wp2
          go_roundw
          case rel => exact ⟨u + 1, by omega, by go_num, trivial⟩
          case measure => simp [intOf]; omega
        · have hzI : ((r : Int) == 0) = false := by simp; omega
          clear hr ht hq HCI HCO
          go_wp2
          go_roundw
          case rel => exact ⟨u + 1, by omega, by go_num, trivial⟩
          case measure => simp [intOf]; omega
      · have htI : ¬ (t : Int) < ((q r).length : Int) := by omega
        rw [HCO.out htl] at hlc
        by_cases hz : r = 0
        · subst hz
          have htd2 : ((u : Int) + 1).tdiv 4 = (t : Int) + 1 := by rw [Int.tdiv_eq_ediv_of_nonneg (by omega)]; omega
          clear hr ht hq HCI HCO
          go_wp2
          go_roundw
          case rel => exact ⟨u + 1, by omega, by go_num, trivial⟩
          case measure => simp [intOf]; omega
        · have hzI : ((r : Int) == 0) = false := by simp; omega
          clear hr ht hq HCI HCO
          go_wp2
          go_roundw
          case rel => exact ⟨u + 1, by omega, by go_num, trivial⟩
          case measure => simp [intOf]; omega
set_option maxRecDepth 1000000 in
set_option maxHeartbeats 8000000 in
theorem kfl_loop3 {y0 y1 y2 y3 y4 y5 y7 y8 y9 y10 y11 y12 y13 y14 y15 y16 y19 y20 y21 y22 y23 y24 y25 y26 y27 y28 y29 y30 y31 y32 y33 y34 y35 y36 y37 y38 y39 y40 y41 y42 y43 y44 y45 y46 y47 y48 y49 y50 y51 y52 y53 y54 y55 y56 y57 y58 y59 y60 y61 y62 y63 y64 y65 y66 y67 y68 y69 y70 y71 y72 y73 y74 y75 y76 y77 y78 y79 y80 y81 y82 y83 y84 y85 y86 y87 y88 y89 y90 y91 y92 y93 y94 y95 y96 y97 y98 y99 y100 y101 y102 y103 y104 y105 y106 y107 y108 y109 y110 y111 y112 y113 y114 y115 y116 y117 y118 y119 y120 y121 y122 y123 y124 y125 y126 y127 y128 y129 y130 y131 y132 y133 y134 y135 y136 y137 y138 y139 y140 y141 y142 y143 y144 y145 y146 y147 y148 y149 y150 y151 y152 y153 y154 y155 y156 y157 y158 y159 y160 y161 y162 y163 y164 y165 y166 y167 y168 y169 y170 y171 y172 y173 y174 y175 y176 y177 y178 y179 y180 y181 y182 y183 y184 y185 y186 y187 y188 y189 y190 y191 y192 y193 y194 y195 y196 y197 y198 y199 y200 y201 y202 y203 y204 y205 y206 y207 y208 y209 y210 y211 y212 y213 y214 y215 y216 y217 y218 y219 y220 y221 y222 y223 y224 y225 y226 y227 y228 y229 y230 y231 y232 y233 y234 y235 y236 y237 y238 y239 y240 y241 y242 y243 y244 y245 y246 : Value} {p N gl ol cap : Nat} {V : World} {Q : Exit → Act → World → Prop} (hN : N ≤ 5000)
    (hc : V.cell? ⟨p, 2, none⟩ = some (.slice (some ⟨gl, ol, none⟩) N cap))
    (HL : Hid (∀ i, i < N → V.cell? ⟨gl, ol + i * 20 + 1, none⟩ = some (.int .i64 (if i % 5 = 0 then 1 else 2)) ∧ V.cell? ⟨gl, ol + i * 20 + 3, none⟩ = some (.int .i64 ((i / 5 + 1 : Nat) : Int))))
    (HEX : Hid (∀ {v4 v18 v118 v119 v120 v121 v122 v123 v124 v125 v126 v127 v128 v129 v130 v131 v132 v133 v134 v135 v136 v137 v138 v139 v140 v141 v142 v143 v144 v145 v146 v147 v148 v149 v150 v151 v152 v153 v154 v155 v156 v157 v158 v159 v160 v161 v162 v163 v164 v165 v166 v167 v168 : Value}, Q (.exit 4) ⟨List.toArray (y0 :: y1 :: y2 :: y3 :: v4 :: y5 :: .pointer (some ⟨p, 0, none⟩) :: y7 :: y8 :: y9 :: y10 :: y11 :: y12 :: y13 :: y14 :: y15 :: y16 :: .int .i64 (((N : Int) + 4) / 5) :: v18 :: y19 :: y20 :: y21 :: y22 :: y23 :: y24 :: y25 :: y26 :: y27 :: y28 :: y29 :: y30 :: y31 :: y32 :: y33 :: y34 :: y35 :: y36 :: y37 :: y38 :: y39 :: y40 :: y41 :: y42 :: y43 :: y44 :: y45 :: y46 :: y47 :: y48 :: y49 :: y50 :: y51 :: y52 :: y53 :: y54 :: y55 :: y56 :: y57 :: y58 :: y59 :: y60 :: y61 :: y62 :: y63 :: y64 :: y65 :: y66 :: y67 :: y68 :: y69 :: y70 :: y71 :: y72 :: y73 :: y74 :: y75 :: y76 :: y77 :: y78 :: y79 :: y80 :: y81 :: y82 :: y83 :: y84 :: y85 :: y86 :: y87 :: y88 :: y89 :: y90 :: y91 :: y92 :: y93 :: y94 :: y95 :: y96 :: y97 :: y98 :: y99 :: y100 :: y101 :: y102 :: y103 :: y104 :: y105 :: y106 :: y107 :: y108 :: y109 :: y110 :: y111 :: y112 :: y113 :: y114 :: y115 :: y116 :: y117 :: v118 :: v119 :: v120 :: v121 :: v122 :: v123 :: v124 :: v125 :: v126 :: v127 :: v128 :: v129 :: v130 :: v131 :: v132 :: v133 :: v134 :: v135 :: v136 :: v137 :: v138 :: v139 :: v140 :: v141 :: v142 :: v143 :: v144 :: v145 :: v146 :: v147 :: v148 :: v149 :: v150 :: v151 :: v152 :: v153 :: v154 :: v155 :: v156 :: v157 :: v158 :: v159 :: v160 :: v161 :: v162 :: v163 :: v164 :: v165 :: v166 :: v167 :: v168 :: y169 :: y170 :: y171 :: y172 :: y173 :: y174 :: y175 :: y176 :: y177 :: y178 :: y179 :: y180 :: y181 :: y182 :: y183 :: y184 :: y185 :: y186 :: y187 :: y188 :: y189 :: y190 :: y191 :: y192 :: y193 :: y194 :: y195 :: y196 :: y197 :: y198 :: y199 :: y200 :: y201 :: y202 :: y203 :: y204 :: y205 :: y206 :: y207 :: y208 :: y209 :: y210 :: y211 :: y212 :: y213 :: y214 :: y215 :: y216 :: y217 :: y218 :: y219 :: y220 :: y221 :: y222 :: y223 :: y224 :: y225 :: y226 :: y227 :: y228 :: y229 :: y230 :: y231 :: y232 :: y233 :: y234 :: y235 :: y236 :: y237 :: y238 :: y239 :: y240 :: y241 :: y242 :: y243 :: y244 :: y245 :: y246 :: []), []⟩ V)) :
    Code.wp Tryd.prog (Code.loop kflB3) Q ⟨List.toArray (y0 :: y1 :: y2 :: y3 :: y4 :: y5 :: .pointer (some ⟨p, 0, none⟩) :: y7 :: y8 :: y9 :: y10 :: y11 :: y12 :: y13 :: y14 :: y15 :: y16 :: .int .i64 0 :: .int .i64 0 :: y19 :: y20 :: y21 :: y22 :: y23 :: y24 :: y25 :: y26 :: y27 :: y28 :: y29 :: y30 :: y31 :: y32 :: y33 :: y34 :: y35 :: y36 :: y37 :: y38 :: y39 :: y40 :: y41 :: y42 :: y43 :: y44 :: y45 :: y46 :: y47 :: y48 :: y49 :: y50 :: y51 :: y52 :: y53 :: y54 :: y55 :: y56 :: y57 :: y58 :: y59 :: y60 :: y61 :: y62 :: y63 :: y64 :: y65 :: y66 :: y67 :: y68 :: y69 :: y70 :: y71 :: y72 :: y73 :: y74 :: y75 :: y76 :: y77 :: y78 :: y79 :: y80 :: y81 :: y82 :: y83 :: y84 :: y85 :: y86 :: y87 :: y88 :: y89 :: y90 :: y91 :: y92 :: y93 :: y94 :: y95 :: y96 :: y97 :: y98 :: y99 :: y100 :: y101 :: y102 :: y103 :: y104 :: y105 :: y106 :: y107 :: y108 :: y109 :: y110 :: y111 :: y112 :: y113 :: y114 :: y115 :: y116 :: y117 :: y118 :: y119 :: y120 :: y121 :: y122 :: y123 :: y124 :: y125 :: y126 :: y127 :: y128 :: y129 :: y130 :: y131 :: y132 :: y133 :: y134 :: y135 :: y136 :: y137 :: y138 :: y139 :: y140 :: y141 :: y142 :: y143 :: y144 :: y145 :: y146 :: y147 :: y148 :: y149 :: y150 :: y151 :: y152 :: y153 :: y154 :: y155 :: y156 :: y157 :: y158 :: y159 :: y160 :: y161 :: y162 :: y163 :: y164 :: y165 :: y166 :: y167 :: y168 :: y169 :: y170 :: y171 :: y172 :: y173 :: y174 :: y175 :: y176 :: y177 :: y178 :: y179 :: y180 :: y181 :: y182 :: y183 :: y184 :: y185 :: y186 :: y187 :: y188 :: y189 :: y190 :: y191 :: y192 :: y193 :: y194 :: y195 :: y196 :: y197 :: y198 :: y199 :: y200 :: y201 :: y202 :: y203 :: y204 :: y205 :: y206 :: y207 :: y208 :: y209 :: y210 :: y211 :: y212 :: y213 :: y214 :: y215 :: y216 :: y217 :: y218 :: y219 :: y220 :: y221 :: y222 :: y223 :: y224 :: y225 :: y226 :: y227 :: y228 :: y229 :: y230 :: y231 :: y232 :: y233 :: y234 :: y235 :: y236 :: y237 :: y238 :: y239 :: y240 :: y241 :: y242 :: y243 :: y244 :: y245 :: y246 :: []), []⟩ V := by
  conv => arg 2; arg 1; whnf
  have hnI : (N : Int) ≤ 5000 := by omega
  go_loopw [17, 18] (fun tt ii w' => ∃ i : Nat, i ≤ N ∧ tt = .int .i64 (((i : Int) + 4) / 5) ∧ ii = .int .i64 (i : Int) ∧ Hid (w' = V)) (fun _ ii _ => N - (intOf ii).toNat)
  case atStart => exact ⟨0, by omega, rfl, rfl, rfl⟩
  case round =>
    obtain ⟨i, hi, rfl, rfl, hw⟩ := hrel
    rw [hw.out]
    clear hw
    have hi0 : (0 : Int) ≤ (i : Int) := by omega
    by_cases hil : i < N
    rotate_left
    · have hiI : ¬ (i : Int) < (N : Int) := by omega
      have e : i = N := by omega
      subst e
      go_wp2
      exact HEX.out
    · have hiI : (i : Int) < (N : Int) := by omega
      obtain ⟨c1, c3⟩ := HL.out i hil
      obtain ⟨t, ht⟩ : ∃ t, ((i : Int) + 4) / 5 = t := ⟨_, rfl⟩
      obtain ⟨x, hx⟩ : ∃ x, i / 5 + 1 = x := ⟨_, rfl⟩
      rw [hx] at c3
      rw [ht]
      have hlt : ¬ (x : Int) < t := by omega
      have HN : Hid ((((i + 1 : Nat) : Int) + 4) / 5 = (x : Int)) := by show _ = _; omega
      by_cases h5 : i % 5 = 0
      · rw [if_pos h5] at c1
        clear ht hx
        go_wp2
        go_roundw
        case rel => exact ⟨i + 1, by omega, by rw [HN.out], by go_num, trivial⟩
        case measure => simp [intOf]; omega
      · rw [if_neg h5] at c1
        have HT : Hid ((x : Int) = t) := by show _ = _; omega
        clear ht hx
        go_wp2
        go_roundw
        case rel => exact ⟨i + 1, by omega, by rw [HN.out, HT.out], by go_num, trivial⟩
        case measure => simp [intOf]; omega
set_option maxRecDepth 1000000 in
set_option maxHeartbeats 8000000 in
theorem kfl_loop4 {y0 y1 y2 y3 y4 y5 y7 y9 y10 y11 y12 y13 y14 y15 y16 y18 y20 y21 y22 y23 y24 y25 y26 y27 y28 y29 y30 y31 y32 y33 y34 y35 y36 y37 y38 y39 y40 y41 y42 y43 y44 y45 y46 y47 y48 y49 y50 y51 y52 y53 y54 y55 y56 y57 y58 y59 y60 y61 y62 y63 y64 y65 y66 y67 y68 y69 y70 y71 y72 y73 y74 y75 y76 y77 y78 y79 y80 y81 y82 y83 y84 y85 y86 y87 y88 y89 y90 y91 y92 y93 y94 y95 y96 y97 y98 y99 y100 y101 y102 y103 y104 y105 y106 y107 y108 y109 y110 y111 y112 y113 y114 y115 y116 y117 y118 y119 y120 y121 y122 y123 y124 y125 y126 y127 y128 y129 y130 y131 y132 y133 y134 y135 y136 y137 y138 y139 y140 y141 y142 y143 y144 y145 y146 y147 y148 y149 y150 y151 y152 y153 y154 y155 y156 y157 y158 y159 y160 y161 y162 y163 y164 y165 y166 y167 y168 y169 y170 y171 y172 y173 y174 y175 y176 y177 y178 y179 y180 y181 y182 y183 y184 y185 y186 y187 y188 y189 y190 y191 y192 y193 y194 y195 y196 y197 y198 y199 y200 y201 y202 y203 y204 y205 y206 y207 y208 y209 y210 y211 y212 y213 y214 y215 y216 y217 y218 y219 y220 y221 y222 y223 y224 y225 y226 y227 y228 y229 y230 y231 y232 y233 y234 y235 y236 y237 y238 y239 y240 y241 y242 y243 y244 y245 y246 : Value} {p g T : Nat} {q : Nat → List ByteArray} {V : World} {Q : Exit → Act → World → Prop} (hT : T ≤ 5000)
    (HG : Hid (∀ k, k < 4 → ∃ a c, V.cell? ⟨g, k, none⟩ = some (.slice a (q k).length c) ∧ (q k).length ≤ 8 ∧ ∀ t (ht : t < (q k).length), ∃ g' o', a = some ⟨g', o', none⟩ ∧ V.cell? ⟨g', o' + t, none⟩ = some (.string (q k)[t])))
    (HW : Hid (∀ k, k < 4 → ∃ a n cap, V.cell? ⟨p, 5 + k * 4 + 3, none⟩ = some (.slice a n cap) ∧ (T ≤ n + 4 ∧ (2 < T → n + 3 ≤ T) ∧ (T < 4 → n = 0) ∧ n ≤ 5000) ∧ ∀ t, t < n → ∃ gl ol, a = some ⟨gl, ol, none⟩ ∧ V.cell? ⟨gl, ol + t, none⟩ = some (.string (cmdN q (t + 1)))))
    (HEX : Hid (∀ {v4 v19 v20 v21 v22 v23 v173 v174 v175 v176 v177 v178 v179 v180 v181 v182 v183 v184 v185 v186 v187 v188 v189 v190 v191 v192 v193 v194 v195 v196 v197 v198 v199 v200 v201 v202 v203 v204 v205 v206 v207 v208 v209 v210 v211 v212 v213 v214 v215 v216 v217 v218 v219 v220 v221 v222 v223 v224 v225 v226 v227 v228 v229 v230 v231 v232 v233 v234 v235 v236 v237 v238 v239 v240 v241 v242 v243 v244 : Value}, Q (.exit 6) ⟨List.toArray (y0 :: y1 :: y2 :: y3 :: v4 :: y5 :: .pointer (some ⟨p, 0, none⟩) :: y7 :: .pointer (some ⟨g, 0, none⟩) :: y9 :: y10 :: y11 :: y12 :: y13 :: y14 :: y15 :: y16 :: .int .i64 (T : Int) :: y18 :: v19 :: v20 :: v21 :: v22 :: v23 :: y24 :: y25 :: y26 :: y27 :: y28 :: y29 :: y30 :: y31 :: y32 :: y33 :: y34 :: y35 :: y36 :: y37 :: y38 :: y39 :: y40 :: y41 :: y42 :: y43 :: y44 :: y45 :: y46 :: y47 :: y48 :: y49 :: y50 :: y51 :: y52 :: y53 :: y54 :: y55 :: y56 :: y57 :: y58 :: y59 :: y60 :: y61 :: y62 :: y63 :: y64 :: y65 :: y66 :: y67 :: y68 :: y69 :: y70 :: y71 :: y72 :: y73 :: y74 :: y75 :: y76 :: y77 :: y78 :: y79 :: y80 :: y81 :: y82 :: y83 :: y84 :: y85 :: y86 :: y87 :: y88 :: y89 :: y90 :: y91 :: y92 :: y93 :: y94 :: y95 :: y96 :: y97 :: y98 :: y99 :: y100 :: y101 :: y102 :: y103 :: y104 :: y105 :: y106 :: y107 :: y108 :: y109 :: y110 :: y111 :: y112 :: y113 :: y114 :: y115 :: y116 :: y117 :: y118 :: y119 :: y120 :: y121 :: y122 :: y123 :: y124 :: y125 :: y126 :: y127 :: y128 :: y129 :: y130 :: y131 :: y132 :: y133 :: y134 :: y135 :: y136 :: y137 :: y138 :: y139 :: y140 :: y141 :: y142 :: y143 :: y144 :: y145 :: y146 :: y147 :: y148 :: y149 :: y150 :: y151 :: y152 :: y153 :: y154 :: y155 :: y156 :: y157 :: y158 :: y159 :: y160 :: y161 :: y162 :: y163 :: y164 :: y165 :: y166 :: y167 :: y168 :: y169 :: y170 :: y171 :: y172 :: v173 :: v174 :: v175 :: v176 :: v177 :: v178 :: v179 :: v180 :: v181 :: v182 :: v183 :: v184 :: v185 :: v186 :: v187 :: v188 :: v189 :: v190 :: v191 :: v192 :: v193 :: v194 :: v195 :: v196 :: v197 :: v198 :: v199 :: v200 :: v201 :: v202 :: v203 :: v204 :: v205 :: v206 :: v207 :: v208 :: v209 :: v210 :: v211 :: v212 :: v213 :: v214 :: v215 :: v216 :: v217 :: v218 :: v219 :: v220 :: v221 :: v222 :: v223 :: v224 :: v225 :: v226 :: v227 :: v228 :: v229 :: v230 :: v231 :: v232 :: v233 :: v234 :: v235 :: v236 :: v237 :: v238 :: v239 :: v240 :: v241 :: v242 :: v243 :: v244 :: y245 :: y246 :: []), []⟩ V)) :
    Code.wp Tryd.prog (Code.loop kflB4) Q ⟨List.toArray (y0 :: y1 :: y2 :: y3 :: y4 :: y5 :: .pointer (some ⟨p, 0, none⟩) :: y7 :: .pointer (some ⟨g, 0, none⟩) :: y9 :: y10 :: y11 :: y12 :: y13 :: y14 :: y15 :: y16 :: .int .i64 (T : Int) :: y18 :: .int .i64 0 :: y20 :: y21 :: y22 :: y23 :: y24 :: y25 :: y26 :: y27 :: y28 :: y29 :: y30 :: y31 :: y32 :: y33 :: y34 :: y35 :: y36 :: y37 :: y38 :: y39 :: y40 :: y41 :: y42 :: y43 :: y44 :: y45 :: y46 :: y47 :: y48 :: y49 :: y50 :: y51 :: y52 :: y53 :: y54 :: y55 :: y56 :: y57 :: y58 :: y59 :: y60 :: y61 :: y62 :: y63 :: y64 :: y65 :: y66 :: y67 :: y68 :: y69 :: y70 :: y71 :: y72 :: y73 :: y74 :: y75 :: y76 :: y77 :: y78 :: y79 :: y80 :: y81 :: y82 :: y83 :: y84 :: y85 :: y86 :: y87 :: y88 :: y89 :: y90 :: y91 :: y92 :: y93 :: y94 :: y95 :: y96 :: y97 :: y98 :: y99 :: y100 :: y101 :: y102 :: y103 :: y104 :: y105 :: y106 :: y107 :: y108 :: y109 :: y110 :: y111 :: y112 :: y113 :: y114 :: y115 :: y116 :: y117 :: y118 :: y119 :: y120 :: y121 :: y122 :: y123 :: y124 :: y125 :: y126 :: y127 :: y128 :: y129 :: y130 :: y131 :: y132 :: y133 :: y134 :: y135 :: y136 :: y137 :: y138 :: y139 :: y140 :: y141 :: y142 :: y143 :: y144 :: y145 :: y146 :: y147 :: y148 :: y149 :: y150 :: y151 :: y152 :: y153 :: y154 :: y155 :: y156 :: y157 :: y158 :: y159 :: y160 :: y161 :: y162 :: y163 :: y164 :: y165 :: y166 :: y167 :: y168 :: y169 :: y170 :: y171 :: y172 :: y173 :: y174 :: y175 :: y176 :: y177 :: y178 :: y179 :: y180 :: y181 :: y182 :: y183 :: y184 :: y185 :: y186 :: y187 :: y188 :: y189 :: y190 :: y191 :: y192 :: y193 :: y194 :: y195 :: y196 :: y197 :: y198 :: y199 :: y200 :: y201 :: y202 :: y203 :: y204 :: y205 :: y206 :: y207 :: y208 :: y209 :: y210 :: y211 :: y212 :: y213 :: y214 :: y215 :: y216 :: y217 :: y218 :: y219 :: y220 :: y221 :: y222 :: y223 :: y224 :: y225 :: y226 :: y227 :: y228 :: y229 :: y230 :: y231 :: y232 :: y233 :: y234 :: y235 :: y236 :: y237 :: y238 :: y239 :: y240 :: y241 :: y242 :: y243 :: y244 :: y245 :: y246 :: []), []⟩ V := by
  conv => arg 2; arg 1; whnf
  have hTI : (T : Int) ≤ 5000 := by omega
  have hT0 : (0 : Int) ≤ (T : Int) := by omega
  go_loopw [19] (fun kk w' => ∃ k : Nat, k ≤ 4 ∧ kk = .int .i64 (k : Int) ∧ Hid (w' = V)) (fun kk _ => 4 - (intOf kk).toNat)
  case atStart => exact ⟨0, by omega, rfl, rfl⟩
  case round =>
    obtain ⟨k, hk, rfl, hw⟩ := hrel
    rw [hw.out]
    clear hw
    have hk0 : (0 : Int) ≤ (k : Int) := by omega
    by_cases hkl : k < 4
    rotate_left
    · have hkI : ¬ (k : Int) < 4 := by omega
      go_wp2
      exact HEX.out
    · have hkI : (k : Int) < 4 := by omega
      obtain ⟨a, n, cap, hc, ⟨n1, n2, n3, n4⟩, hl⟩ := HW.out k hkl
      have HL : Hid (∀ t, t < n → ∃ gl ol, a = some ⟨gl, ol, none⟩ ∧ V.cell? ⟨gl, ol + t, none⟩ = some (.string (cmdN q (t + 1)))) := hl
      have hn0 : (0 : Int) ≤ (n : Int) := by omega
      have hnI : (n : Int) ≤ 5000 := by omega
      have g1 : ¬ (n : Int) < (T : Int) - 4 := by omega
      clear hl
      have hex : ∀ {Q2 : Exit → Act → World → Prop}, True := fun {_} => trivial
      by_cases g2 : (T : Int) - 3 < (n : Int)
      · have g3 : ¬ (2 : Int) < (T : Int) := by omega
        have g4 : ¬ (0 : Int) < (n : Int) := by omega
        clear n1 n2 n3 hex
        go_wp2
        refine kfl_loop5 HG n4 HL ?hex
        case hex =>
        intro v4 v21 v22 v23 v209 v210 v211 v212 v213 v214 v215 v216 v217 v218 v219 v220 v221 v222 v223 v224 v225 v226 v227 v228 v229 v230 v231 v232 v233 v234 v235 v236 v237 v238 v239 v240 v241 v242 v243 v244
        go_wp2
        go_roundw
        case rel => exact ⟨k + 1, by omega, by go_num, trivial⟩
        case measure => simp [intOf]; omega
      · by_cases g4 : (0 : Int) < (n : Int)
        · have g5 : ¬ (T : Int) < 4 := by omega
          clear n1 n2 n3 hex
          go_wp2
          refine kfl_loop5 HG n4 HL ?hexb
          case hexb =>
          intro v4 v21 v22 v23 v209 v210 v211 v212 v213 v214 v215 v216 v217 v218 v219 v220 v221 v222 v223 v224 v225 v226 v227 v228 v229 v230 v231 v232 v233 v234 v235 v236 v237 v238 v239 v240 v241 v242 v243 v244
          go_wp2
          go_roundw
          case rel => exact ⟨k + 1, by omega, by go_num, trivial⟩
          case measure => simp [intOf]; omega
        · clear n1 n2 n3 hex
          go_wp2
          refine kfl_loop5 HG n4 HL ?hexc
          case hexc =>
          intro v4 v21 v22 v23 v209 v210 v211 v212 v213 v214 v215 v216 v217 v218 v219 v220 v221 v222 v223 v224 v225 v226 v227 v228 v229 v230 v231 v232 v233 v234 v235 v236 v237 v238 v239 v240 v241 v242 v243 v244
          go_wp2
          go_roundw
          case rel => exact ⟨k + 1, by omega, by go_num, trivial⟩
          case measure => simp [intOf]; omega
end Go.Proofs.YtkehpnobidendaaDoor

namespace Go.Proofs.YtkehpnobidendaaDoor
open Go.RowKit
attribute [local go_sem ↓] app_s

noncomputable def kflB1 : Code := ((Tryd.f5.body.map loopsOf).getD []).getD 0 .skip
set_option maxRecDepth 1000000 in
set_option maxHeartbeats 8000000 in
theorem kfl_loop1 {y1 y2 y3 y4 y5 y7 y10 y11 y12 y13 y14 y15 y16 y17 y18 y19 y20 y21 y22 y23 y24 y25 y26 y27 y28 y29 y30 y31 y32 y33 y34 y35 y36 y37 y38 y39 y40 y41 y42 y43 y44 y45 y46 y47 y48 y49 y50 y51 y52 y53 y54 y55 y56 y57 y58 y59 y60 y61 y62 y63 y64 y65 y66 y67 y68 y69 y70 y71 y72 y73 y74 y75 y76 y77 y78 y79 y80 y81 y82 y83 y84 y85 y86 y87 y88 y89 y90 y91 y92 y93 y94 y95 y96 y97 y98 y99 y100 y101 y102 y103 y104 y105 y106 y107 y108 y109 y110 y111 y112 y113 y114 y115 y116 y117 y118 y119 y120 y121 y122 y123 y124 y125 y126 y127 y128 y129 y130 y131 y132 y133 y134 y135 y136 y137 y138 y139 y140 y141 y142 y143 y144 y145 y146 y147 y148 y149 y150 y151 y152 y153 y154 y155 y156 y157 y158 y159 y160 y161 y162 y163 y164 y165 y166 y167 y168 y169 y170 y171 y172 y173 y174 y175 y176 y177 y178 y179 y180 y181 y182 y183 y184 y185 y186 y187 y188 y189 y190 y191 y192 y193 y194 y195 y196 y197 y198 y199 y200 y201 y202 y203 y204 y205 y206 y207 y208 y209 y210 y211 y212 y213 y214 y215 y216 y217 y218 y219 y220 y221 y222 y223 y224 y225 y226 y227 y228 y229 y230 y231 y232 y233 y234 y235 y236 y237 y238 y239 y240 y241 y242 y243 y244 y245 y246 : Value} {p g gc oc cap : Nat} {av : Option Addr} {cs : List Int} {ps : List (Option Nat)} {w0 w : World} {A0 : Nat → Nat → Prop} {K0 : Clu} {S0 : Nat → Prop} {q0 : Nat → List ByteArray} {Q : Exit → Act → World → Prop} (hlen : cs.length ≤ 20000000000000)
    (HAV : Hid (0 < cs.length → av = some ⟨gc, oc, none⟩ ∧ gc < w0.heap.size)) (HCE : Hid (∀ (i : Nat) (hi : i < cs.length), w0.cell? ⟨gc, oc + i, none⟩ = some (.int .i64 cs[i]) ∧ -9223372036854775808 ≤ cs[i] ∧ cs[i] ≤ 9223372036854775807))
    (HF0 : Hid (FSit w0 w p g A0 ps K0 S0 q0 ∧ Giv q0 K0 0 ∧ KOk K0 1))
    (HEX : Hid (∀ {v4 v9 v10 v11 v12 v35 v36 v37 v38 v39 v40 v41 v42 v43 v44 v45 v46 v47 v48 v49 v50 v51 v52 v53 v54 v55 v56 v57 v58 v59 v60 v61 v62 v63 v64 v65 v66 v67 v68 v69 v70 v71 v72 v73 v74 v75 v76 v77 v78 v79 v80 v81 v82 v83 : Value} {w' : World} {A : Nat → Nat → Prop} {K : Clu} {S : Nat → Prop} {q : Nat → List ByteArray} {i : Nat}, FSit w0 w' p g A ps K S q ∧ Giv q K i ∧ KOk K 1 → Q (.exit 0) ⟨List.toArray (.slice av cs.length cap :: y1 :: y2 :: y3 :: v4 :: y5 :: .pointer (some ⟨p, 0, none⟩) :: y7 :: .pointer (some ⟨g, 0, none⟩) :: v9 :: v10 :: v11 :: v12 :: y13 :: y14 :: y15 :: y16 :: y17 :: y18 :: y19 :: y20 :: y21 :: y22 :: y23 :: y24 :: y25 :: y26 :: y27 :: y28 :: y29 :: y30 :: y31 :: y32 :: y33 :: y34 :: v35 :: v36 :: v37 :: v38 :: v39 :: v40 :: v41 :: v42 :: v43 :: v44 :: v45 :: v46 :: v47 :: v48 :: v49 :: v50 :: v51 :: v52 :: v53 :: v54 :: v55 :: v56 :: v57 :: v58 :: v59 :: v60 :: v61 :: v62 :: v63 :: v64 :: v65 :: v66 :: v67 :: v68 :: v69 :: v70 :: v71 :: v72 :: v73 :: v74 :: v75 :: v76 :: v77 :: v78 :: v79 :: v80 :: v81 :: v82 :: v83 :: y84 :: y85 :: y86 :: y87 :: y88 :: y89 :: y90 :: y91 :: y92 :: y93 :: y94 :: y95 :: y96 :: y97 :: y98 :: y99 :: y100 :: y101 :: y102 :: y103 :: y104 :: y105 :: y106 :: y107 :: y108 :: y109 :: y110 :: y111 :: y112 :: y113 :: y114 :: y115 :: y116 :: y117 :: y118 :: y119 :: y120 :: y121 :: y122 :: y123 :: y124 :: y125 :: y126 :: y127 :: y128 :: y129 :: y130 :: y131 :: y132 :: y133 :: y134 :: y135 :: y136 :: y137 :: y138 :: y139 :: y140 :: y141 :: y142 :: y143 :: y144 :: y145 :: y146 :: y147 :: y148 :: y149 :: y150 :: y151 :: y152 :: y153 :: y154 :: y155 :: y156 :: y157 :: y158 :: y159 :: y160 :: y161 :: y162 :: y163 :: y164 :: y165 :: y166 :: y167 :: y168 :: y169 :: y170 :: y171 :: y172 :: y173 :: y174 :: y175 :: y176 :: y177 :: y178 :: y179 :: y180 :: y181 :: y182 :: y183 :: y184 :: y185 :: y186 :: y187 :: y188 :: y189 :: y190 :: y191 :: y192 :: y193 :: y194 :: y195 :: y196 :: y197 :: y198 :: y199 :: y200 :: y201 :: y202 :: y203 :: y204 :: y205 :: y206 :: y207 :: y208 :: y209 :: y210 :: y211 :: y212 :: y213 :: y214 :: y215 :: y216 :: y217 :: y218 :: y219 :: y220 :: y221 :: y222 :: y223 :: y224 :: y225 :: y226 :: y227 :: y228 :: y229 :: y230 :: y231 :: y232 :: y233 :: y234 :: y235 :: y236 :: y237 :: y238 :: y239 :: y240 :: y241 :: y242 :: y243 :: y244 :: y245 :: y246 :: []), []⟩ w')) :
    Code.wp Tryd.prog (Code.loop kflB1) Q ⟨List.toArray (.slice av cs.length cap :: y1 :: y2 :: y3 :: y4 :: y5 :: .pointer (some ⟨p, 0, none⟩) :: y7 :: .pointer (some ⟨g, 0, none⟩) :: .int .i64 0 :: y10 :: y11 :: y12 :: y13 :: y14 :: y15 :: y16 :: y17 :: y18 :: y19 :: y20 :: y21 :: y22 :: y23 :: y24 :: y25 :: y26 :: y27 :: y28 :: y29 :: y30 :: y31 :: y32 :: y33 :: y34 :: y35 :: y36 :: y37 :: y38 :: y39 :: y40 :: y41 :: y42 :: y43 :: y44 :: y45 :: y46 :: y47 :: y48 :: y49 :: y50 :: y51 :: y52 :: y53 :: y54 :: y55 :: y56 :: y57 :: y58 :: y59 :: y60 :: y61 :: y62 :: y63 :: y64 :: y65 :: y66 :: y67 :: y68 :: y69 :: y70 :: y71 :: y72 :: y73 :: y74 :: y75 :: y76 :: y77 :: y78 :: y79 :: y80 :: y81 :: y82 :: y83 :: y84 :: y85 :: y86 :: y87 :: y88 :: y89 :: y90 :: y91 :: y92 :: y93 :: y94 :: y95 :: y96 :: y97 :: y98 :: y99 :: y100 :: y101 :: y102 :: y103 :: y104 :: y105 :: y106 :: y107 :: y108 :: y109 :: y110 :: y111 :: y112 :: y113 :: y114 :: y115 :: y116 :: y117 :: y118 :: y119 :: y120 :: y121 :: y122 :: y123 :: y124 :: y125 :: y126 :: y127 :: y128 :: y129 :: y130 :: y131 :: y132 :: y133 :: y134 :: y135 :: y136 :: y137 :: y138 :: y139 :: y140 :: y141 :: y142 :: y143 :: y144 :: y145 :: y146 :: y147 :: y148 :: y149 :: y150 :: y151 :: y152 :: y153 :: y154 :: y155 :: y156 :: y157 :: y158 :: y159 :: y160 :: y161 :: y162 :: y163 :: y164 :: y165 :: y166 :: y167 :: y168 :: y169 :: y170 :: y171 :: y172 :: y173 :: y174 :: y175 :: y176 :: y177 :: y178 :: y179 :: y180 :: y181 :: y182 :: y183 :: y184 :: y185 :: y186 :: y187 :: y188 :: y189 :: y190 :: y191 :: y192 :: y193 :: y194 :: y195 :: y196 :: y197 :: y198 :: y199 :: y200 :: y201 :: y202 :: y203 :: y204 :: y205 :: y206 :: y207 :: y208 :: y209 :: y210 :: y211 :: y212 :: y213 :: y214 :: y215 :: y216 :: y217 :: y218 :: y219 :: y220 :: y221 :: y222 :: y223 :: y224 :: y225 :: y226 :: y227 :: y228 :: y229 :: y230 :: y231 :: y232 :: y233 :: y234 :: y235 :: y236 :: y237 :: y238 :: y239 :: y240 :: y241 :: y242 :: y243 :: y244 :: y245 :: y246 :: []), []⟩ w := by
  conv => arg 2; arg 1; whnf
  have hlI : (cs.length : Int) ≤ 20000000000000 := by omega
  go_loopw [9] (fun ii w' => ∃ (i : Nat) (A : Nat → Nat → Prop) (K : Clu) (S : Nat → Prop) (q : Nat → List ByteArray), i ≤ 20 ∧ ii = .int .i64 (i : Int) ∧ Hid (FSit w0 w' p g A ps K S q ∧ Giv q K i ∧ KOk K 1)) (fun ii _ => 20 - (intOf ii).toNat)
  case atStart => exact ⟨0, A0, K0, S0, q0, by omega, rfl, HF0.out⟩
  case round =>
    clear HF0
    obtain ⟨i, A, K, S, q, hi, rfl, hS⟩ := hrel
    have hi0 : (0 : Int) ≤ (i : Int) := by omega
    have hi20 : (i : Int) ≤ 20 := by omega
    by_cases hil : i < cs.length
    rotate_left
    · have hiI : ¬ (i : Int) < (cs.length : Int) := by omega
      go_wp2
      exact HEX.out hS.out
    have hiI : (i : Int) < (cs.length : Int) := by omega
    by_cases hi2 : i < 20
    rotate_left
    · have hiJ : ¬ (i : Int) < 20 := by omega
      go_wp2
      exact HEX.out hS.out
    have hiJ : (i : Int) < 20 := by omega
    obtain ⟨rfl, hgc⟩ := HAV.out (by omega)
    obtain ⟨hcc, c0, c1⟩ := HCE.out i hil
    have hcw : wr.cell? ⟨gc, oc + i, none⟩ = some (.int .i64 cs[i]) := (hS.out.1.b.cell (p := ⟨gc, oc + i, none⟩) hgc).trans hcc
    generalize cs[i] = c at hcw c0 c1
    have hk4 := pickN_lt c 4 (by decide)
    have HP1 : Hid (∀ W : World, Calls Tryd.prog 13 #[.int .i64 c, .int .i64 4] W fun e w' => e = .returned (.int .i64 (pickN c 4)) ∧ W = w') := fun W => (kpick c 4 c0 c1 (by decide) (by decide) W).mono (fun _ _ h => ⟨h.1, h.2.symm⟩)
    generalize pickN c 4 = k at hk4 HP1
    have hk0 : (0 : Int) ≤ (k : Int) := by omega
    have hkI : (k : Int) < 4 := by omega
    have HCM : Hid (Calls Tryd.prog 20 #[.pointer (some ⟨p, 0, none⟩)] wr fun e w' => e = .returned (.string (cmdText (i + 1))) ∧ KMem w' p (A 0) ps { K with count := ((i + 1 : Nat) : Int) } ∧ Fr (A 0) wr w') := kcommand wr p (A 0) ps K hS.out.1.k.k i hS.out.2.1.c (by omega)
    have hcs : (cmdText (i + 1)).size ≤ 16 := cmd_size (i + 1) (by omega)
    clear hcc c0 c1
    go_upto_region 11 with (first | (go_at_call 13; refine (HP1.out _).mono ?_; rintro e w1 ⟨rfl, rfl⟩) | (go_at_call 20; refine HCM.out.mono ?_; rintro e w2 ⟨rfl, hm2, hf2⟩; have HM2 : Hid (KMem w2 p (A 0) ps { K with count := ((i + 1 : Nat) : Int) } ∧ Fr (A 0) wr w2) := ⟨hm2, hf2⟩; clear hm2 hf2))
    have HS2 : Hid (KSit w2 p (updA A 0 (A 0)) ps { K with count := ((i + 1 : Nat) : Int) }) := hS.out.1.k.clu HM2.out.1 rfl (Grow.refl _ _) HM2.out.2
    have HG2 : Hid (KGoes wr w2 p A ps { K with count := ((i + 1 : Nat) : Int) }) := ⟨⟨_, HS2.out, grow_u (i := 0) (Grow.refl (A 0) wr)⟩, fr_u (i := 0) (by omega) HM2.out.2⟩
    clear HM2 HS2 HCM HP1 hcw
    obtain ⟨A2, hF2⟩ := hS.out.1.goes HG2.out
    have HF2 : Hid (FSit w0 w2 p g A2 ps { K with count := ((i + 1 : Nat) : Int) } S q) := hF2
    have HGV : Hid (Giv q K i ∧ KOk K 1) := hS.out.2
    have hmk : K.memAt k = some (mem0 q k) := (HGV.out.1.s.ms k hk4).1
    clear hF2 HG2 hS
    obtain ⟨g2, off2, cm2, _, hd0, hdi⟩ := HF2.out.k.cells
    obtain ⟨pm, hpq, hpm⟩ := HF2.out.k.some1 (m := mem0 q k) hk4 hmk
    have hdk := hdi k hk4
    rw [hpq] at hdk
    dsimp only [mptr, Option.map] at hdk
    have HPQ : Hid (ps.getD k none = some pm) := hpq
    have hql : (q k).length ≤ 8 := HGV.out.1.l k
    have HSU : Hid (Calls Tryd.prog 21 #[.pointer (some ⟨pm, 0, none⟩), .string (cmdText (i + 1))] w2 fun e w' => e = .returned (.int .i64 ((mem0 q k).submit (cmdText (i + 1))).2) ∧ ∃ S', PMem w' pm S' ((mem0 q k).submit (cmdText (i + 1))).1 ∧ Grow (A2 (k + 1)) w2 S' ∧ Fr (A2 (k + 1)) w2 w') := psubmit w2 pm _ (mem0 q k) hpm _ (by omega) hql
    have HKM : Hid (∀ w3 S3 m', PMem w3 pm S3 m' → Grow (A2 (k + 1)) w2 S3 → Fr (A2 (k + 1)) w2 w3 → ∃ A3, FSit w0 w3 p g A3 ps (({ K with count := ((i + 1 : Nat) : Int) } : Clu).setMem k m') S q) := fun w3 S3 m' h1 h2 h3 => by
      have hk3 := HF2.out.k.turn (show K.mem.length = 4 from HGV.out.2.ml) hk4 HPQ.out h1 h2 h3
      exact HF2.out.goes ⟨⟨_, hk3, grow_u (i := k + 1) h2⟩, fr_u (i := k + 1) (by omega) h3⟩
    have HOK : Hid (∀ m', MOk m' 1 → KOk (({ K with count := ((i + 1 : Nat) : Int) } : Clu).setMem k m') 1) := fun m' hm' => setMem_kok (count_kok HGV.out.2 _) k hm'
    have HMO : Hid (MOk ((mem0 q k).submit (cmdText (i + 1))).1 1) := mok_submit (HGV.out.2.at' hmk) _
    have hqI : ((q k).length : Int) ≤ 8 := by omega
    clear hdi hpm hpq hmk
    by_cases h8 : 8 ≤ (q k).length
    · obtain ⟨e1, g1⟩ := giv_full HGV.out.1 hk4 hcs h8
      rw [e1] at HSU HMO
      have HGI : Hid (Giv q (({ K with count := ((i + 1 : Nat) : Int) } : Clu).setMem k (mem0 q k)) (i + 1)) := g1
      have h8I : ¬ ((q k).length : Int) < 8 := by omega
      clear e1 g1
      go_upto_region 12 with (go_at_call 21; refine HSU.out.mono ?_; rintro e w3 ⟨rfl, S3, hm3, hg3, hf3⟩; have HM3 : Hid (PMem w3 pm S3 (mem0 q k) ∧ Grow (A2 (k + 1)) w2 S3 ∧ Fr (A2 (k + 1)) w2 w3) := ⟨hm3, hg3, hf3⟩; clear hm3 hg3 hf3)
      obtain ⟨A3, hF3⟩ := HKM.out w3 S3 _ HM3.out.1 HM3.out.2.1 HM3.out.2.2
      have HF3 : Hid (FSit w0 w3 p g A3 ps (({ K with count := ((i + 1 : Nat) : Int) } : Clu).setMem k (mem0 q k)) S q) := hF3
      obtain ⟨ga, gcap, hgk, _, _⟩ := HF3.out.g.at k hk4
      clear hF3 hd0 hdk HSU HM3
      go_wp2
      go_roundw
      case rel => exact ⟨i + 1, A3, _, S, q, by omega, by go_num, HF3.out, HGI.out, HOK.out _ HMO.out⟩
      case measure => simp [intOf]; omega
    · obtain ⟨e1, g1⟩ := giv_more HGV.out.1 hk4 hcs h8
      rw [e1] at HSU HMO
      have HGI : Hid (Giv (addQ q k (cmdText (i + 1))) (({ K with count := ((i + 1 : Nat) : Int) } : Clu).setMem k (mem0 (addQ q k (cmdText (i + 1))) k)) (i + 1)) := g1
      clear e1 g1
      go_upto_region 12 with (go_at_call 21; refine HSU.out.mono ?_; rintro e w3 ⟨rfl, S3, hm3, hg3, hf3⟩; have HM3 : Hid (PMem w3 pm S3 (mem0 (addQ q k (cmdText (i + 1))) k) ∧ Grow (A2 (k + 1)) w2 S3 ∧ Fr (A2 (k + 1)) w2 w3) := ⟨hm3, hg3, hf3⟩; clear hm3 hg3 hf3)
      obtain ⟨A3, hF3⟩ := HKM.out w3 S3 _ HM3.out.1 HM3.out.2.1 HM3.out.2.2
      have HF3 : Hid (FSit w0 w3 p g A3 ps (({ K with count := ((i + 1 : Nat) : Int) } : Clu).setMem k (mem0 (addQ q k (cmdText (i + 1))) k)) S q) := hF3
      clear hF3 hd0 hdk HSU HM3
      obtain ⟨al, cl, a', c', w4, hrun, hga⟩ := HF3.out.g.app k hk4 (cmdText (i + 1)) (by omega)
      have q0 := hga.c0
      have qa := hga.ca
      have q1 := hga.c1
      have f1 := hga.f1
      have HEX4 : Hid (∃ S', GvMem (w4.setCell ⟨g, k, none⟩ (.slice a' ((q k).length + 1) c')) g S' (addQ q k (cmdText (i + 1))) ∧ Grow S w3 S' ∧ Fr S w3 (w4.setCell ⟨g, k, none⟩ (.slice a' ((q k).length + 1) c'))) := hga.ex
      clear hga
      go_wp2
      go_roundw
      case rel =>
        obtain ⟨S', z1, z2, z3⟩ := HEX4.out
        exact ⟨i + 1, A3, _, S', _, by omega, by go_num, HF3.out.put z1 z2 z3, HGI.out, HOK.out _ HMO.out⟩
      case measure => simp [intOf]; omega
end Go.Proofs.YtkehpnobidendaaDoor

namespace Go.Proofs.YtkehpnobidendaaDoor
open Go.RowKit

theorem GvMem.cells {w : World} {g : Nat} {S : Nat → Prop} {q : Nat → List ByteArray} (h : GvMem w g S q) (hl : ∀ j, (q j).length ≤ 8) : ∀ k, k < 4 → ∃ a c, w.cell? ⟨g, k, none⟩ = some (.slice a (q k).length c) ∧ (q k).length ≤ 8 ∧ ∀ t (ht : t < (q k).length), ∃ g' o', a = some ⟨g', o', none⟩ ∧ w.cell? ⟨g', o' + t, none⟩ = some (.string (q k)[t]) := by
  intro k hk
  obtain ⟨a, cap, h1, _, hr⟩ := h.at k hk
  refine ⟨a, cap, h1, hl k, fun t ht => ?_⟩
  obtain ⟨g', o', rfl, _, _, _⟩ := hr.place (by omega)
  refine ⟨g', o', rfl, ?_⟩
  have h2 := hr.elemAt (show ∀ l : ByteArray, (scells l).length = 1 from fun _ => rfl) t ht 0 (.string (q k)[t]) rfl
  rw [Nat.mul_one, Nat.add_zero] at h2
  exact h2
theorem cms_at {q : Nat → List ByteArray} {c t : Nat} (h : t < (cms q c).length) : (cms q c)[t] = cmdN q (t + 1) := by
  have hc : t < c := by unfold cms at h; rw [List.length_map, List.length_range] at h; exact h
  have h1 : (cms q c)[t]? = some (cmdN q (t + 1)) := by unfold cms; rw [List.getElem?_map, List.getElem?_range hc]; rfl
  exact Option.some.inj ((List.getElem?_eq_getElem h).symm.trans h1)
theorem flo_was {w : World} {p : Nat} {A : Nat → Nat → Prop} {ps : List (Option Nat)} {K : Clu} {q : Nat → List ByteArray} {N T : Nat} (h : KSit w p A ps K) (he : FEnd q K N T) : ∀ k, k < 4 → ∃ a n cap, w.cell? ⟨p, 5 + k * 4 + 3, none⟩ = some (.slice a n cap) ∧ (T ≤ n + 4 ∧ (2 < T → n + 3 ≤ T) ∧ (T < 4 → n = 0) ∧ n ≤ 5000) ∧ ∀ t, t < n → ∃ gl ol, a = some ⟨gl, ol, none⟩ ∧ w.cell? ⟨gl, ol + t, none⟩ = some (.string (cmdN q (t + 1))) := by
  intro k hk
  obtain ⟨c, e1, e2, e3, e4⟩ := he.lg k hk
  obtain ⟨a, cap, h1, hr⟩ := h.wcells k hk
  rw [e1] at h1 hr
  have hl : (cms q c).length = c := by unfold cms; rw [List.length_map, List.length_range]
  refine ⟨a, (cms q c).length, cap, h1, ?_, fun t ht => ?_⟩
  · rw [hl]
    have := he.t
    have := he.n2
    refine ⟨e2, e3, e4, ?_⟩
    by_cases h4 : T < 4
    · have := e4 h4; omega
    · have := e3 (by omega); omega
  · obtain ⟨g', o', rfl, _, _, _⟩ := hr.place (by omega)
    refine ⟨g', o', rfl, ?_⟩
    have h2 := hr.elemAt (show ∀ l : ByteArray, (scells l).length = 1 from fun _ => rfl) t ht 0 (.string (cms q c)[t]) rfl
    rw [Nat.mul_one, Nat.add_zero, cms_at] at h2
    exact h2
theorem flo_ltr {w : World} {p : Nat} {A : Nat → Nat → Prop} {ps : List (Option Nat)} {K : Clu} {q : Nat → List ByteArray} {N T : Nat} (h : KSit w p A ps K) (he : FEnd q K N T) : ∃ gl ol cap, w.cell? ⟨p, 2, none⟩ = some (.slice (some ⟨gl, ol, none⟩) N cap) ∧ ∀ i, i < N → w.cell? ⟨gl, ol + i * 20 + 1, none⟩ = some (.int .i64 (if i % 5 = 0 then 1 else 2)) ∧ w.cell? ⟨gl, ol + i * 20 + 3, none⟩ = some (.int .i64 ((i / 5 + 1 : Nat) : Int)) := by
  obtain ⟨a, cap, h1, hr⟩ := h.lcells
  have hN := he.n1
  have hl : K.letters.length = N := by rw [he.lt, List.length_map, List.length_range]
  obtain ⟨gl, ol, rfl, _, _, _⟩ := hr.place (by omega)
  refine ⟨gl, ol, cap, by rw [← hl]; exact h1, fun i hi => ?_⟩
  have hi' : i < K.letters.length := by omega
  have hx : K.letters[i] = ltrN q i := by
    have e : K.letters[i]? = some (ltrN q i) := by rw [he.lt, List.getElem?_map, List.getElem?_range hi]; rfl
    exact Option.some.inj ((List.getElem?_eq_getElem hi').symm.trans e)
  have hel := hr.elemAt (show ∀ l : Ltr, l.cells.length = 20 from fun _ => rfl) i hi'
  rw [hx] at hel
  have k1 := hel 1 (.int .i64 (ltrN q i).msg.kind) rfl
  have k3 := hel 3 (.int .i64 (ltrN q i).msg.view) rfl
  rw [k1, k3]
  unfold ltrN
  by_cases h5 : i % 5 = 0
  · rw [if_pos h5, if_pos h5]; exact ⟨rfl, rfl⟩
  · rw [if_neg h5, if_neg h5]; exact ⟨rfl, rfl⟩
theorem flo_all {q : Nat → List ByteArray} {K1 K : Clu} {b : Bool} {i n : Nat} (h : Giv q K1 i) (he : K1.allTick 4 0 = (K, b)) (hn : n < 200) : (K.flows 0 n).1.over = true ∨ (b = true ∧ (K.flows 0 n).2.2 = true ∧ (K.flows 0 n).2.1 = n ∧ ∃ N T, FEnd q (K.flows 0 n).1 N T) := by
  have := flow_all h.z h.s n (by omega)
  rw [he] at this
  exact this
noncomputable def kflB2 : Code := ((Tryd.f5.body.map loopsOf).getD []).getD 1 .skip
set_option maxRecDepth 1000000 in
set_option maxHeartbeats 8000000 in
theorem kfl_loop2 {y0 y1 y2 y3 y4 y5 y8 y9 y10 y11 y12 y14 y15 y16 y17 y18 y19 y20 y21 y22 y23 y24 y25 y26 y27 y28 y29 y30 y31 y32 y33 y34 y35 y36 y37 y38 y39 y40 y41 y42 y43 y44 y45 y46 y47 y48 y49 y50 y51 y52 y53 y54 y55 y56 y57 y58 y59 y60 y61 y62 y63 y64 y65 y66 y67 y68 y69 y70 y71 y72 y73 y74 y75 y76 y77 y78 y79 y80 y81 y82 y83 y84 y85 y86 y87 y88 y89 y90 y91 y92 y93 y94 y95 y96 y97 y98 y99 y100 y101 y102 y103 y104 y105 y106 y107 y108 y109 y110 y111 y112 y113 y114 y115 y116 y117 y118 y119 y120 y121 y122 y123 y124 y125 y126 y127 y128 y129 y130 y131 y132 y133 y134 y135 y136 y137 y138 y139 y140 y141 y142 y143 y144 y145 y146 y147 y148 y149 y150 y151 y152 y153 y154 y155 y156 y157 y158 y159 y160 y161 y162 y163 y164 y165 y166 y167 y168 y169 y170 y171 y172 y173 y174 y175 y176 y177 y178 y179 y180 y181 y182 y183 y184 y185 y186 y187 y188 y189 y190 y191 y192 y193 y194 y195 y196 y197 y198 y199 y200 y201 y202 y203 y204 y205 y206 y207 y208 y209 y210 y211 y212 y213 y214 y215 y216 y217 y218 y219 y220 y221 y222 y223 y224 y225 y226 y227 y228 y229 y230 y231 y232 y233 y234 y235 y236 y237 y238 y239 y240 y241 y242 y243 y244 y245 y246 : Value} {p g : Nat} {ps : List (Option Nat)} {w0 w : World} {A1 : Nat → Nat → Prop} {K1 : Clu} {S : Nat → Prop} {q : Nat → List ByteArray} {Q : Exit → Act → World → Prop}
    (HF1 : Hid (FSit w0 w p g A1 ps K1 S q ∧ KOk K1 1))
    (HEX : Hid (∀ {v4 v13 v84 v85 v86 v87 v88 v89 v90 v91 v92 v93 v94 v95 v96 v97 v98 v99 v100 v101 v102 v103 v104 v105 v106 v107 v108 v109 v110 v111 v112 v113 v114 v115 v116 v117 : Value} {b : Bool} {w' : World} {A : Nat → Nat → Prop} {K : Clu}, FSit w0 w' p g A ps K S q ∧ KOk K 9 ∧ K1.allTick 4 0 = (K, b) → Q (.exit 2) ⟨List.toArray (y0 :: y1 :: y2 :: y3 :: v4 :: y5 :: .pointer (some ⟨p, 0, none⟩) :: .bool b :: y8 :: y9 :: y10 :: y11 :: y12 :: v13 :: y14 :: y15 :: y16 :: y17 :: y18 :: y19 :: y20 :: y21 :: y22 :: y23 :: y24 :: y25 :: y26 :: y27 :: y28 :: y29 :: y30 :: y31 :: y32 :: y33 :: y34 :: y35 :: y36 :: y37 :: y38 :: y39 :: y40 :: y41 :: y42 :: y43 :: y44 :: y45 :: y46 :: y47 :: y48 :: y49 :: y50 :: y51 :: y52 :: y53 :: y54 :: y55 :: y56 :: y57 :: y58 :: y59 :: y60 :: y61 :: y62 :: y63 :: y64 :: y65 :: y66 :: y67 :: y68 :: y69 :: y70 :: y71 :: y72 :: y73 :: y74 :: y75 :: y76 :: y77 :: y78 :: y79 :: y80 :: y81 :: y82 :: y83 :: v84 :: v85 :: v86 :: v87 :: v88 :: v89 :: v90 :: v91 :: v92 :: v93 :: v94 :: v95 :: v96 :: v97 :: v98 :: v99 :: v100 :: v101 :: v102 :: v103 :: v104 :: v105 :: v106 :: v107 :: v108 :: v109 :: v110 :: v111 :: v112 :: v113 :: v114 :: v115 :: v116 :: v117 :: y118 :: y119 :: y120 :: y121 :: y122 :: y123 :: y124 :: y125 :: y126 :: y127 :: y128 :: y129 :: y130 :: y131 :: y132 :: y133 :: y134 :: y135 :: y136 :: y137 :: y138 :: y139 :: y140 :: y141 :: y142 :: y143 :: y144 :: y145 :: y146 :: y147 :: y148 :: y149 :: y150 :: y151 :: y152 :: y153 :: y154 :: y155 :: y156 :: y157 :: y158 :: y159 :: y160 :: y161 :: y162 :: y163 :: y164 :: y165 :: y166 :: y167 :: y168 :: y169 :: y170 :: y171 :: y172 :: y173 :: y174 :: y175 :: y176 :: y177 :: y178 :: y179 :: y180 :: y181 :: y182 :: y183 :: y184 :: y185 :: y186 :: y187 :: y188 :: y189 :: y190 :: y191 :: y192 :: y193 :: y194 :: y195 :: y196 :: y197 :: y198 :: y199 :: y200 :: y201 :: y202 :: y203 :: y204 :: y205 :: y206 :: y207 :: y208 :: y209 :: y210 :: y211 :: y212 :: y213 :: y214 :: y215 :: y216 :: y217 :: y218 :: y219 :: y220 :: y221 :: y222 :: y223 :: y224 :: y225 :: y226 :: y227 :: y228 :: y229 :: y230 :: y231 :: y232 :: y233 :: y234 :: y235 :: y236 :: y237 :: y238 :: y239 :: y240 :: y241 :: y242 :: y243 :: y244 :: y245 :: y246 :: []), []⟩ w')) :
    Code.wp Tryd.prog (Code.loop kflB2) Q ⟨List.toArray (y0 :: y1 :: y2 :: y3 :: y4 :: y5 :: .pointer (some ⟨p, 0, none⟩) :: .bool true :: y8 :: y9 :: y10 :: y11 :: y12 :: .int .i64 0 :: y14 :: y15 :: y16 :: y17 :: y18 :: y19 :: y20 :: y21 :: y22 :: y23 :: y24 :: y25 :: y26 :: y27 :: y28 :: y29 :: y30 :: y31 :: y32 :: y33 :: y34 :: y35 :: y36 :: y37 :: y38 :: y39 :: y40 :: y41 :: y42 :: y43 :: y44 :: y45 :: y46 :: y47 :: y48 :: y49 :: y50 :: y51 :: y52 :: y53 :: y54 :: y55 :: y56 :: y57 :: y58 :: y59 :: y60 :: y61 :: y62 :: y63 :: y64 :: y65 :: y66 :: y67 :: y68 :: y69 :: y70 :: y71 :: y72 :: y73 :: y74 :: y75 :: y76 :: y77 :: y78 :: y79 :: y80 :: y81 :: y82 :: y83 :: y84 :: y85 :: y86 :: y87 :: y88 :: y89 :: y90 :: y91 :: y92 :: y93 :: y94 :: y95 :: y96 :: y97 :: y98 :: y99 :: y100 :: y101 :: y102 :: y103 :: y104 :: y105 :: y106 :: y107 :: y108 :: y109 :: y110 :: y111 :: y112 :: y113 :: y114 :: y115 :: y116 :: y117 :: y118 :: y119 :: y120 :: y121 :: y122 :: y123 :: y124 :: y125 :: y126 :: y127 :: y128 :: y129 :: y130 :: y131 :: y132 :: y133 :: y134 :: y135 :: y136 :: y137 :: y138 :: y139 :: y140 :: y141 :: y142 :: y143 :: y144 :: y145 :: y146 :: y147 :: y148 :: y149 :: y150 :: y151 :: y152 :: y153 :: y154 :: y155 :: y156 :: y157 :: y158 :: y159 :: y160 :: y161 :: y162 :: y163 :: y164 :: y165 :: y166 :: y167 :: y168 :: y169 :: y170 :: y171 :: y172 :: y173 :: y174 :: y175 :: y176 :: y177 :: y178 :: y179 :: y180 :: y181 :: y182 :: y183 :: y184 :: y185 :: y186 :: y187 :: y188 :: y189 :: y190 :: y191 :: y192 :: y193 :: y194 :: y195 :: y196 :: y197 :: y198 :: y199 :: y200 :: y201 :: y202 :: y203 :: y204 :: y205 :: y206 :: y207 :: y208 :: y209 :: y210 :: y211 :: y212 :: y213 :: y214 :: y215 :: y216 :: y217 :: y218 :: y219 :: y220 :: y221 :: y222 :: y223 :: y224 :: y225 :: y226 :: y227 :: y228 :: y229 :: y230 :: y231 :: y232 :: y233 :: y234 :: y235 :: y236 :: y237 :: y238 :: y239 :: y240 :: y241 :: y242 :: y243 :: y244 :: y245 :: y246 :: []), []⟩ w := by
  conv => arg 2; arg 1; whnf
  go_loopw [7, 13] (fun oo kk w' => ∃ (k : Nat) (b : Bool) (A : Nat → Nat → Prop) (K : Clu), k ≤ 4 ∧ oo = .bool b ∧ kk = .int .i64 (k : Int) ∧ Hid (FSit w0 w' p g A ps K S q) ∧ Hid (KOk K (1 + 2 * k)) ∧ Hid ((b = true ∧ K1.allTick 4 0 = K.allTick (4 - k) k) ∨ (b = false ∧ K1.allTick 4 0 = (K, false)))) (fun _ kk _ => 4 - (intOf kk).toNat)
  case atStart => exact ⟨0, true, A1, K1, by omega, rfl, rfl, HF1.out.1, HF1.out.2, .inl ⟨rfl, rfl⟩⟩
  case round =>
    clear HF1
    obtain ⟨k, b, A, K, hk, rfl, rfl, hS, hO, hE⟩ := hrel
    have hk0 : (0 : Int) ≤ (k : Int) := by omega
    cases b with
    | false =>
      have HD : Hid (FSit w0 wr p g A ps K S q ∧ KOk K 9 ∧ K1.allTick 4 0 = (K, false)) := by
        refine ⟨hS.out, hO.out.mono (by omega), ?_⟩
        rcases hE.out with h | h
        · cases h.1
        · exact h.2
      clear hS hO hE
      go_wp2
      exact HEX.out HD.out
    | true =>
      have HE2 : Hid (K1.allTick 4 0 = K.allTick (4 - k) k) := by
        rcases hE.out with h | h
        · exact h.2
        · cases h.1
      clear hE
      by_cases hk4 : k < 4
      · have hkI : (k : Int) < 4 := by omega
        have HH : Hid (Calls Tryd.prog 22 #[.pointer (some ⟨p, 0, none⟩), .agg #[.int .i64 1, .int .i64 k, .int .i64 0]] wr fun e w' => e = .returned (.bool (K.ticks k).2) ∧ KGoes wr w' p A ps (K.ticks k).1) := by
          have h1 := khappens1 wr p A ps K hS.out.k _ hO.out (by omega) k 0 (by omega) (by omega)
          rw [pick_small hk4] at h1
          exact h1
        have HO2 : Hid (KOk (K.ticks k).1 (1 + 2 * (k + 1))) := ticks_kok hO.out hk4
        have HE3 : Hid (((K.ticks k).2 = true ∧ K1.allTick 4 0 = (K.ticks k).1.allTick (4 - (k + 1)) (k + 1)) ∨ ((K.ticks k).2 = false ∧ K1.allTick 4 0 = ((K.ticks k).1, false))) := by
          show _ ∨ _
          rw [HE2.out, show 4 - k = (4 - (k + 1)) + 1 by omega, allTick_step]
          cases hb : (K.ticks k).2 with
          | true => exact .inl ⟨rfl, if_pos rfl⟩
          | false => exact .inr ⟨rfl, (if_neg (by decide)).trans (Prod.ext rfl hb)⟩
        clear HE2
        generalize K.ticks k = R at *
        obtain ⟨K2, b2⟩ := R
        dsimp only at *
        go_wp2_with (go_at_call 22; refine HH.out.mono ?_; rintro e w3 ⟨rfl, hg3⟩; have HG3 : Hid (KGoes wr w3 p A ps K2) := hg3; clear hg3)
        go_roundw
        case rel =>
          obtain ⟨A3, z1⟩ := hS.out.goes HG3.out
          exact ⟨k + 1, b2, A3, K2, by omega, rfl, by go_num, z1, HO2.out, HE3.out⟩
        case measure => simp [intOf]; omega
      · have hkI : ¬ (k : Int) < 4 := by omega
        have hke : k = 4 := by omega
        subst hke
        have HD : Hid (FSit w0 wr p g A ps K S q ∧ KOk K 9 ∧ K1.allTick 4 0 = (K, true)) := ⟨hS.out, hO.out.mono (by omega), HE2.out⟩
        clear hS hO HE2
        go_wp2
        exact HEX.out HD.out
set_option maxRecDepth 1000000 in
set_option maxHeartbeats 16000000 in
theorem kflow (cs : List Int) (hcs : ∀ c ∈ cs, -9223372036854775808 ≤ c ∧ c ≤ 9223372036854775807) (hlen : cs.length ≤ 20000000000000) (av : Option Addr) (cap gc oc : Nat) (le : Int) (l0 : -9223372036854775808 ≤ le) (l1 : le ≤ 9223372036854775807) (w : World) (ht : Tab w)
    (hav : 0 < cs.length → av = some ⟨gc, oc, none⟩ ∧ gc < w.heap.size)
    (hcel : ∀ (i : Nat) (hi : i < cs.length), w.cell? ⟨gc, oc + i, none⟩ = some (.int .i64 cs[i])) :
    Calls Tryd.prog 5 #[.slice av cs.length cap, .int .i64 le] w fun e w' => e = .returned (.bool true) ∧ Below w.heap.size w w' := by
  have HAW : Hid (Calls Tryd.prog 10 #[] w fun e w' => e = .returned (.bool true) ∧ Below w.heap.size w w') := kawake w ht
  have HT : Hid (Tab w) := ht
  have HBG : Hid (∀ W, Tab W → Calls Tryd.prog 19 #[.int .i64 (-1), .int .i64 50] W fun e w' => KBegun W (-1) 50 e w') := fun W hW => kbegins W hW (-1) 50 (by decide) (by decide)
  have HP2 : Hid (∀ W, Calls Tryd.prog 13 #[.int .i64 le, .int .i64 200] W fun e w' => e = .returned (.int .i64 (pickN le 200)) ∧ W = w') := fun W => (kpick le 200 l0 l1 (by decide) (by decide) W).mono (fun _ _ h => ⟨h.1, h.2.symm⟩)
  have hmo := pickN_lt le 200 (by decide)
  generalize pickN le 200 = mo at hmo HP2
  have hmI : (mo : Int) < 200 := by omega
  have hm0 : (0 : Int) ≤ (mo : Int) := by omega
  have HAV : Hid (0 < cs.length → av = some ⟨gc, oc, none⟩ ∧ gc < w.heap.size) := hav
  have HCE : Hid (∀ (i : Nat) (hi : i < cs.length), w.cell? ⟨gc, oc + i, none⟩ = some (.int .i64 cs[i]) ∧ -9223372036854775808 ≤ cs[i] ∧ cs[i] ≤ 9223372036854775807) := fun i hi => ⟨hcel i hi, hcs _ (List.getElem_mem hi)⟩
  have HPO : Hid (0 < w.heap.size) := ht.pos
  clear ht hav hcel hcs l0 l1
  go_enter Tryd.func5, Tryd.ntmps5
  go_upto_region 2 with (go_at_call 10; refine HAW.out.mono ?_; rintro e w1 ⟨rfl, hb1⟩; have HB1 : Hid (Below w.heap.size w w1) := hb1; clear hb1)
  have HT1 : Hid (Tab w1) := HT.out.below HB1.out
  go_upto_region 3 with (go_at_call 19; refine (HBG.out w1 HT1.out).mono ?_; rintro e w2 ⟨p, A, ps, rfl, hs2, hn2, hb2⟩; have HS : Hid (KSit w2 p A ps (Clu.begins (-1) 50)) := hs2; have HN : Hid (∀ b, UA A b → w1.heap.size ≤ b) := hn2; have HB2 : Hid (Below w1.heap.size w1 w2) := hb2; clear hs2 hn2 hb2)
  have HBE : Hid (Below w.heap.size w w2) := bnext HB1.out HB2.out
  have HNE : Hid (∀ b, UA A b → w.heap.size ≤ b) := fun b hb => Nat.le_trans HB1.out.size (HN.out b hb)
  have HF0 : Hid (FSit w (w2.alloc (.cells #[.slice none 0 0, .slice none 0 0, .slice none 0 0, .slice none 0 0] 52)) p w2.heap.size A ps (Clu.begins (-1) 50) (fun b => b = w2.heap.size) (fun _ => []) ∧ Giv (fun _ => []) (Clu.begins (-1) 50) 0 ∧ KOk (Clu.begins (-1) 50) 1) := by
    refine ⟨⟨HS.out.below (below_alloc _ _), GvMem.new w2, fun b hb hu => ?_, HNE.out, fun b hb => ?_, bnext HBE.out (below_alloc _ _), HPO.out⟩, giv_zero, begins_kok (-1) 50 (by decide) (by decide)⟩
    · obtain ⟨i, hi, hA⟩ := hu
      have := HS.out.lt i b hi hA
      omega
    · have := HBE.out.size; omega
  clear HAW HBG HT HT1 HB1 HB2 HN HS HBE HNE HPO
  go_wp2
  refine kfl_loop1 hlen HAV HCE HF0 ?hex1
  case hex1 =>
  intro a4 a9 a10 a11 a12 a35 a36 a37 a38 a39 a40 a41 a42 a43 a44 a45 a46 a47 a48 a49 a50 a51 a52 a53 a54 a55 a56 a57 a58 a59 a60 a61 a62 a63 a64 a65 a66 a67 a68 a69 a70 a71 a72 a73 a74 a75 a76 a77 a78 a79 a80 a81 a82 a83 w3 A3 K3 S3 q3 i3 hF3
  have HF3 : Hid (FSit w w3 p w2.heap.size A3 ps K3 S3 q3 ∧ KOk K3 1) := ⟨hF3.1, hF3.2.2⟩
  have HGI : Hid (Giv q3 K3 i3) := hF3.2.1
  clear hF3 HF0 HAV HCE
  generalize w2.heap.size = g at HF3 ⊢
  go_wp2
  refine kfl_loop2 HF3 ?hex2
  case hex2 =>
  intro b4 b13 b84 b85 b86 b87 b88 b89 b90 b91 b92 b93 b94 b95 b96 b97 b98 b99 b100 b101 b102 b103 b104 b105 b106 b107 b108 b109 b110 b111 b112 b113 b114 b115 b116 b117 b w4 A4 K4 hF4
  have HF4 : Hid (FSit w w4 p g A4 ps K4 S3 q3) := hF4.1
  have HAL : Hid ((K4.flows 0 mo).1.over = true ∨ (b = true ∧ (K4.flows 0 mo).2.2 = true ∧ (K4.flows 0 mo).2.1 = mo ∧ ∃ N T, FEnd q3 (K4.flows 0 mo).1 N T)) := flo_all HGI.out hF4.2.2 hmo
  have HFL : Hid (Calls Tryd.prog 23 #[.pointer (some ⟨p, 0, none⟩), .int .i64 0, .int .i64 (mo : Int)] w4 fun e w' => e = .returned (.tuple #[.int .i64 (K4.flows 0 mo).2.1, .bool (K4.flows 0 mo).2.2]) ∧ KGoes w4 w' p A4 ps (K4.flows 0 mo).1 ∧ KOk (K4.flows 0 mo).1 (9 + 8 * mo)) := kflows w4 p A4 ps K4 HF4.out.k 9 hF4.2.1 0 mo (by omega) (by omega)
  have HQL : Hid (∀ j, (q3 j).length ≤ 8) := HGI.out.l
  clear hF4 HF3 HGI
  generalize K4.flows 0 mo = R at HAL HFL
  obtain ⟨K5, en, fi⟩ := R
  dsimp only at HAL HFL
  go_upto_region 22 with (first | (go_at_call 13; refine (HP2.out _).mono ?_; rintro e w9 ⟨rfl, rfl⟩) | (go_at_call 23; refine HFL.out.mono ?_; rintro e w5 ⟨rfl, hg5, hok5⟩; have HG5 : Hid (KGoes w4 w5 p A4 ps K5) := hg5; have HO5 : Hid (KOk K5 (9 + 8 * mo)) := hok5; clear hg5 hok5))
  obtain ⟨A5, hF5⟩ := HF4.out.goes HG5.out
  have HF5 : Hid (FSit w w5 p g A5 ps K5 S3 q3) := hF5
  have hov := HF5.out.k.over
  clear hF5 HF4 HG5 HFL HP2
  cases ho : K5.over with
  | true =>
    rw [ho] at hov
    go_wp2
    go_ret
    exact ⟨rfl, HF5.out.b⟩
  | false =>
    rw [ho] at hov
    obtain ⟨rfl, rfl, rfl, N, T, hE⟩ : b = true ∧ fi = true ∧ en = mo ∧ ∃ N T, FEnd q3 K5 N T := by
      rcases HAL.out with h | h
      · rw [ho] at h; cases h
      · exact h
    have HE : Hid (FEnd q3 K5 N T) := hE
    have hN := hE.n2
    have hT : T ≤ 5000 := by have := hE.t; omega
    have hTT : ((N : Int) + 4) / 5 = (T : Int) := by have := hE.t; omega
    obtain ⟨gl, ol, lcap, hlc, hll⟩ := flo_ltr HF5.out.k hE
    have HLL : Hid (∀ i, i < N → w5.cell? ⟨gl, ol + i * 20 + 1, none⟩ = some (.int .i64 (if i % 5 = 0 then 1 else 2)) ∧ w5.cell? ⟨gl, ol + i * 20 + 3, none⟩ = some (.int .i64 ((i / 5 + 1 : Nat) : Int))) := hll
    clear hE HAL hll ho
    have hmm : ((en : Int) == (en : Int)) = true := by simp
    go_wp2
    refine kfl_loop3 hN hlc HLL ?hex3
    case hex3 =>
    intro c4 c18 c118 c119 c120 c121 c122 c123 c124 c125 c126 c127 c128 c129 c130 c131 c132 c133 c134 c135 c136 c137 c138 c139 c140 c141 c142 c143 c144 c145 c146 c147 c148 c149 c150 c151 c152 c153 c154 c155 c156 c157 c158 c159 c160 c161 c162 c163 c164 c165 c166 c167 c168
    rw [hTT]
    clear hlc HLL hTT
    go_wp2
    refine kfl_loop4 (q := q3) hT (fun k hk => HF5.out.g.cells HQL.out k hk) (fun k hk => flo_was HF5.out.k HE.out k hk) ?hex4
    case hex4 =>
    intro d4 d19 d20 d21 d22 d23 d173 d174 d175 d176 d177 d178 d179 d180 d181 d182 d183 d184 d185 d186 d187 d188 d189 d190 d191 d192 d193 d194 d195 d196 d197 d198 d199 d200 d201 d202 d203 d204 d205 d206 d207 d208 d209 d210 d211 d212 d213 d214 d215 d216 d217 d218 d219 d220 d221 d222 d223 d224 d225 d226 d227 d228 d229 d230 d231 d232 d233 d234 d235 d236 d237 d238 d239 d240 d241 d242 d243 d244
    have HAG : Hid (Calls Tryd.prog 24 #[.pointer (some ⟨p, 0, none⟩)] w5 fun e w' => e = .returned (.bool true) ∧ Below w5.heap.size w5 w') := by
      have h1 := kagree w5 p A5 ps K5 HF5.out.k (fun k => by have := HO5.out.wl k; omega)
      rw [HE.out.agree] at h1
      exact h1
    go_wp2_with (go_at_call 24; refine HAG.out.mono ?_; rintro e w6 ⟨rfl, hb6⟩; have HB6 : Hid (Below w5.heap.size w5 w6) := hb6; clear hb6)
    go_ret
    exact ⟨rfl, bnext HF5.out.b HB6.out⟩
end Go.Proofs.YtkehpnobidendaaDoor
