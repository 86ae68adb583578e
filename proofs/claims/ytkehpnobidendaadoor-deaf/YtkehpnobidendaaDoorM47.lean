/- parleykeep's awake: true, whatever the world: the plain run by the kernel. parleykeep's Deaf: the plain side: what a member that hears nothing sends, tick by tick; every run by the kernel. No program in it. parleykeep's Deaf: true, whatever the input. -/
import Derived.Test.YtkehpnobidendaaDoorM45
import Derived.Test.YtkehpnobidendaaDoorM46
import Derived.Test.YtkehpnobidendaaDoorM30
import Derived.BigQuiet
namespace Go.Proofs.YtkehpnobidendaaDoor
open Go.RowKit

/-! The plain run. -/
theorem awake2_ok : awake2.2 = true := by decide +kernel
theorem awake3_ok : awake3.2 = (40, true) := by decide +kernel
theorem awake_logs : ((awake3.1.w0.log.headD ⟨#[]⟩).toList == bOne.toList) = true ∧ ((awake3.1.w1.log.headD ⟨#[]⟩).toList == bOne.toList) = true ∧ ((awake3.1.w2.log.headD ⟨#[]⟩).toList == bOne.toList) = true ∧ ((awake3.1.w3.log.headD ⟨#[]⟩).toList == bOne.toList) = true := by decide +kernel
theorem awake_logn : awake3.1.w0.log.length ≠ 0 ∧ awake3.1.w1.log.length ≠ 0 ∧ awake3.1.w2.log.length ≠ 0 ∧ awake3.1.w3.log.length ≠ 0 := by decide +kernel
theorem awake_log (k : Nat) : ∃ s r, (awake3.1.was k).log = s :: r ∧ (s.toList == bOne.toList) = true := by
  have key : ∀ l : List ByteArray, l.length ≠ 0 → ((l.headD ⟨#[]⟩).toList == bOne.toList) = true → ∃ s r, l = s :: r ∧ (s.toList == bOne.toList) = true := fun l h1 h2 => by
    cases l with
    | nil => exact absurd rfl h1
    | cons s r => exact ⟨s, r, rfl, h2⟩
  unfold Clu.was
  split
  · exact key _ awake_logn.1 awake_logs.1
  · split
    · exact key _ awake_logn.2.1 awake_logs.2.1
    · split
      · exact key _ awake_logn.2.2.1 awake_logs.2.2.1
      · exact key _ awake_logn.2.2.2 awake_logs.2.2.2
theorem pick_small {k : Nat} (h : k < 4) : pickN (k : Int) 4 = k := by
  rcases (by omega : k = 0 ∨ k = 1 ∨ k = 2 ∨ k = 3) with rfl | rfl | rfl | rfl <;> decide
theorem allTick_step {K : Clu} {f k : Nat} : K.allTick (f + 1) k = if (K.ticks k).2 then (K.ticks k).1.allTick f (k + 1) else K.ticks k := rfl
/-- Where what a member had lies. -/
theorem KSit.wcells {w : World} {p : Nat} {A : Nat → Nat → Prop} {ps : List (Option Nat)} {K : Clu} (h : KSit w p A ps K) (k : Nat) (hk : k < 4) : ∃ a cap, w.cell? ⟨p, 5 + k * 4 + 3, none⟩ = some (.slice a (K.was k).log.length cap) ∧ Row w (A 0) 9 1 (.slice a (K.was k).log.length cap) (K.was k).log.length ((K.was k).log.flatMap scells) := by
  obtain ⟨vm, vl, vc, vv, l0, l1, l2, l3, vb, g1⟩ := h.k.ex
  rcases (by omega : k = 0 ∨ k = 1 ∨ k = 2 ∨ k = 3) with rfl | rfl | rfl | rfl
  · have hr : Row w (A 0) 9 1 l0 K.w0.log.length (K.w0.log.flatMap scells) := g1.row 4 _ _ _ rfl rfl rfl
    obtain ⟨am, cm, rfl⟩ := hr.isSlice
    exact ⟨am, cm, cell_at g1.box 8, hr⟩
  · have hr : Row w (A 0) 9 1 l1 K.w1.log.length (K.w1.log.flatMap scells) := g1.row 5 _ _ _ rfl rfl rfl
    obtain ⟨am, cm, rfl⟩ := hr.isSlice
    exact ⟨am, cm, cell_at g1.box 12, hr⟩
  · have hr : Row w (A 0) 9 1 l2 K.w2.log.length (K.w2.log.flatMap scells) := g1.row 6 _ _ _ rfl rfl rfl
    obtain ⟨am, cm, rfl⟩ := hr.isSlice
    exact ⟨am, cm, cell_at g1.box 16, hr⟩
  · have hr : Row w (A 0) 9 1 l3 K.w3.log.length (K.w3.log.flatMap scells) := g1.row 7 _ _ _ rfl rfl rfl
    obtain ⟨am, cm, rfl⟩ := hr.isSlice
    exact ⟨am, cm, cell_at g1.box 20, hr⟩
/-- All that the cluster is lies in new memory: what lay before lies as it lay. -/
theorem kbelow {w w1 w2 : World} {A : Nat → Nat → Prop} (hb : Below w.heap.size w w1) (hf : Fr (UA A) w1 w2) (hA : ∀ b, UA A b → w.heap.size ≤ b) : Below w.heap.size w w2 :=
  ⟨hf.os.trans hb.os, hf.tape.trans hb.tape, hf.output.trans hb.output, Nat.le_trans hb.size hf.size, fun b hb2 => (hf.block b (Nat.lt_of_lt_of_le hb2 hb.size) (fun h1 => by have := hA b h1; omega)).trans (hb.block b hb2)⟩
set_option maxRecDepth 100000 in
set_option maxHeartbeats 4000000 in
theorem kawake (w : World) (ht : Tab w) :
    Calls Tryd.prog 10 #[] w fun e w' => e = .returned (.bool true) ∧ Below w.heap.size w w' := by
  have HBG : Hid (Calls Tryd.prog 19 #[.int .i64 (-1), .int .i64 9] w fun e w' => KBegun w (-1) 9 e w') := kbegins w ht (-1) 9 (by decide) (by decide)
  go_enter Tryd.func10, Tryd.ntmps10
  go_upto_region 2 with (go_at_call 19; refine HBG.out.mono ?_; rintro e w1 ⟨p, A, ps, rfl, hs, hn, hb⟩; have HS : Hid (KSit w1 p A ps (Clu.begins (-1) 9)) := hs; have HN : Hid (∀ b, UA A b → w.heap.size ≤ b) := hn; have HB : Hid (Below w.heap.size w w1) := hb; clear hs hn hb)
  obtain ⟨g, off, cm, hgA, hc0, hci⟩ := HS.out.cells
  have hat : (Clu.begins (-1) 9).memAt 1 = some (Mem.new 1 9) := rfl
  obtain ⟨pm, hq, hpm⟩ := HS.out.some1 (i := 1) (by omega) hat
  have hc1 := hci 1 (by omega)
  rw [hq] at hc1
  dsimp only [mptr, Option.map] at hc1
  have HSU : Hid (Calls Tryd.prog 21 #[.pointer (some ⟨pm, 0, none⟩), .string ⟨#[111, 110, 101]⟩] w1 fun e w' => e = .returned (.int .i64 0) ∧ ∃ S', PMem w' pm S' ((Mem.new 1 9).submit bOne).1 ∧ Grow (A 2) w1 S' ∧ Fr (A 2) w1 w') := psubmit w1 pm (A 2) (Mem.new 1 9) hpm bOne (by decide) (by decide)
  have HPM : Hid (ps.getD 1 none = some pm) := hq
  have HK1 : Hid (KOk awake1 1) := submits_kok (begins_kok (-1) 9 (by decide) (by decide)) bOne
  have HE1 : Hid (awake1 = (Clu.begins (-1) 9).setMem 1 ((Mem.new 1 9).submit bOne).1) := rfl
  have HFL : Hid (awake3 = awake2.1.flows 0 40 ∧ awake2 = awake1.allTick 4 0) := ⟨rfl, rfl⟩
  have HA2 : Hid (awake2.2 = true) := awake2_ok
  have HA3 : Hid (awake3.2 = (40, true)) := awake3_ok
  have HLG : Hid (∀ k, ∃ s r, (awake3.1.was k).log = s :: r ∧ (s.toList == bOne.toList) = true) := awake_log
  have HK0 : Hid ((Clu.begins (-1) 9).mem.length = 4) := rfl
  clear hat hq hpm hci hgA HBG ht
  generalize awake3 = R3 at *
  generalize awake2 = R2 at *
  generalize awake1 = R1 at *
  generalize Clu.begins (-1) 9 = K0 at *
  generalize ((Mem.new 1 9).submit bOne).1 = m1 at *
  go_upto_region 5 with (go_at_call 21; refine HSU.out.mono ?_; rintro e w2 ⟨rfl, S2, hm2, hg2, hf2⟩; have HM2 : Hid (PMem w2 pm S2 m1 ∧ Grow (A 2) w1 S2 ∧ Fr (A 2) w1 w2) := ⟨hm2, hg2, hf2⟩; clear hm2 hg2 hf2)
  have HS1 : Hid (KSit w2 p (updA A 2 S2) ps R1) := by rw [HE1.out]; exact HS.out.turn HK0.out (i := 1) (by omega) HPM.out HM2.out.1 HM2.out.2.1 HM2.out.2.2
  have HG1 : Hid (Grow (UA A) w1 (UA (updA A 2 S2)) ∧ Fr (UA A) w1 w2) := ⟨grow_u (i := 2) HM2.out.2.1, fr_u (i := 2) (by omega) HM2.out.2.2⟩
  clear HS HE1 HM2 hc0 hc1 HSU HPM HK0
  go_wp2
  go_loopw [2, 4] (fun o kk wr => ∃ (k : Nat) (A1 : Nat → Nat → Prop) (K : Clu), k ≤ 4 ∧ o = .bool true ∧ kk = .int .i64 k ∧ Hid (KSit wr p A1 ps K ∧ Grow (UA A) w1 (UA A1) ∧ Fr (UA A) w1 wr) ∧ Hid (KOk K (1 + 2 * k)) ∧ Hid (R2 = K.allTick (4 - k) k)) (fun _ kk _ => 4 - (intOf kk).toNat)
  case atStart => exact ⟨0, _, R1, by omega, rfl, rfl, ⟨HS1.out, HG1.out.1, HG1.out.2⟩, HK1.out, HFL.out.2⟩
  case round =>
    clear HS1 HG1 HK1
    obtain ⟨k, A1, K, hk, rfl, rfl, hS, hO, hE⟩ := hrel
    have hk0 : (0 : Int) ≤ (k : Int) := by omega
    by_cases hk4 : k < 4
    · have hkI : (k : Int) < 4 := by omega
      have hst : (K.ticks k).2 = true ∧ R2 = (K.ticks k).1.allTick (4 - (k + 1)) (k + 1) := by
        have h1 := hE.out
        rw [show 4 - k = (4 - (k + 1)) + 1 by omega, allTick_step] at h1
        cases hb : (K.ticks k).2 with
        | true => rw [hb] at h1; exact ⟨rfl, h1⟩
        | false => rw [hb] at h1; have h2 := HA2.out; rw [h1] at h2; rw [show (if false = true then _ else K.ticks k) = K.ticks k from rfl, hb] at h2; cases h2
      have HH : Hid (Calls Tryd.prog 22 #[.pointer (some ⟨p, 0, none⟩), .agg #[.int .i64 1, .int .i64 k, .int .i64 0]] wr fun e w' => e = .returned (.bool true) ∧ KGoes wr w' p A1 ps (K.ticks k).1) := by
        have h1 := khappens1 wr p A1 ps K hS.out.1 _ hO.out (by omega) k 0 (by omega) (by omega)
        rw [pick_small hk4, hst.1] at h1
        exact h1
      have HO2 : Hid (KOk (K.ticks k).1 (1 + 2 * (k + 1))) := ticks_kok hO.out hk4
      have HE2 : Hid (R2 = (K.ticks k).1.allTick (4 - (k + 1)) (k + 1)) := hst.2
      clear hE hst
      generalize (K.ticks k).1 = K2 at *
      go_wp2_with (go_at_call 22; refine HH.out.mono ?_; rintro e w3 ⟨rfl, hg3⟩; have HG3 : Hid (KGoes wr w3 p A1 ps K2) := hg3; clear hg3)
      go_roundw
      case rel =>
        obtain ⟨A2, z1, z2⟩ := HG3.out.ex
        exact ⟨k + 1, A2, K2, by omega, rfl, by go_num, ⟨z1, hS.out.2.1.trans hS.out.2.2.size z2, hS.out.2.2.grow hS.out.2.1 HG3.out.fr⟩, HO2.out, HE2.out⟩
      case measure => simp [intOf]; omega
    · have hkI : ¬ (k : Int) < 4 := by omega
      have hke : k = 4 := by omega
      subst hke
      have hR2 : R2 = (K, true) := hE.out
      have HF : Hid (Calls Tryd.prog 23 #[.pointer (some ⟨p, 0, none⟩), .int .i64 0, .int .i64 40] wr fun e w' => e = .returned (.tuple #[.int .i64 40, .bool true]) ∧ KGoes wr w' p A1 ps R3.1) := by
        have h0 : K.flows 0 40 = R3 := by rw [HFL.out.1, hR2]
        have h1 := kflows wr p A1 ps K hS.out.1 _ hO.out 0 40 (by omega) (by omega)
        rw [h0, HA3.out] at h1
        exact h1.mono (fun e w' h => ⟨h.1, h.2.1⟩)
      clear hR2 hE HFL HA2 HA3 hO
      go_upto_region 10 with (go_at_call 23; refine HF.out.mono ?_; rintro e w3 ⟨rfl, hg3⟩; have HG3 : Hid (KGoes wr w3 p A1 ps R3.1) := hg3; clear hg3)
      have HBB : Hid (Below w.heap.size w w3) := kbelow HB.out (hS.out.2.2.grow hS.out.2.1 HG3.out.fr) HN.out
      obtain ⟨A3, hs3, _⟩ := HG3.out.ex
      have HS3 : Hid (KSit w3 p A3 ps R3.1) := hs3
      clear hs3 HG3 HF hS HB HN
      go_wp2
      go_loopw [7] (fun kk w' => ∃ (j : Nat), j ≤ 4 ∧ kk = .int .i64 j ∧ Hid (w' = w3)) (fun kk _ => 4 - (intOf kk).toNat)
      case atStart => exact ⟨0, by omega, rfl, rfl⟩
      case round =>
        obtain ⟨j, hj, rfl, hw3⟩ := hrel
        obtain rfl : wr = w3 := hw3.out
        have hj0 : (0 : Int) ≤ (j : Int) := by omega
        by_cases hj4 : j < 4
        · have hjI : (j : Int) < 4 := by omega
          obtain ⟨a, cap, hwc, hrow⟩ := HS3.out.wcells j hj4
          obtain ⟨s, r, hlog, hse⟩ := HLG.out j
          rw [hlog] at hwc hrow
          obtain ⟨gl, ol, rfl, _, hgl, hcp⟩ := hrow.place (by simp)
          have sl : ∀ x : ByteArray, (scells x).length = 1 := fun _ => rfl
          have hs0 := hrow.elem sl 0 0 (by simp) (by omega)
          have hs1 : wr.cell? ⟨gl, ol, none⟩ = some (.string s) := by simpa [scells] using hs0
          simp only [List.length_cons] at hwc
          have hrl : (0 : Int) < ((r.length + 1 : Nat) : Int) := by omega
          have hb1 : bOne.toList = [111, 110, 101] := by decide +kernel
          have hse2 : (s.toList == [111, 110, 101]) = true := by rw [← hb1]; exact hse
          have hrz : (((r.length : Nat) : Int) + 1 == 0) = false := by simp; omega
          clear hse hb1
          clear hlog hrow hs0 sl
          go_wp2
          go_roundw
          case rel => exact ⟨j + 1, by omega, by go_num, by first | exact trivial | exact rfl⟩
          case measure => simp [intOf]; omega
        · have hjI : ¬ (j : Int) < 4 := by omega
          go_wp2
          go_ret
          exact ⟨rfl, HBB.out⟩
end Go.Proofs.YtkehpnobidendaaDoor

namespace Go.Proofs.YtkehpnobidendaaDoor
open Go.RowKit

/-- Is what was sent at tick i (the e-th view was entered just now, if i is a multiple of the patience) as it is asked? -/
def deafOut (p id i e : Nat) (out : List Ltr) : Bool :=
  let ent := i % p == 0
  let first := id == 1 && i == 1 && decide (1 < p)
  (if ent then match out with
    | l :: r => decide (l.msg.kind = 3 ∧ l.msg.view = (e : Int) + 1 ∧ l.to = ((e : Int) + 1) % 4 ∧ l.msg.fro = id ∧ l.msg.sl = sealOf id 3 ((e : Int) + 1) 0 ∧ l.msg.cert.view = 0) && (if first then match r with
        | [q] => decide (q.msg.kind = 1 ∧ q.to = -1 ∧ q.msg.view = 1)
        | _ => false
      else r.isEmpty)
    | [] => false
  else if first then match out with
    | [q] => decide (q.msg.kind = 1 ∧ q.to = -1 ∧ q.msg.view = 1)
    | _ => false
  else out.isEmpty)
/-- From tick i on, n ticks: all is as it is asked, and what the member has in the end of each. -/
def deafRun (p id : Nat) : Nat → Nat → Nat → Mem → Bool
  | 0, _, _, _ => true
  | n + 1, i, e, m =>
    let e1 := if i % p == 0 then e + 1 else e
    deafOut p id i e1 m.tick.2 && decide (m.tick.1.log = [] ∧ m.tick.1.view = (e1 : Int) + 1 ∧ m.tick.1.high.view = 0) && deafRun p id n (i + 1) e1 m.tick.1
theorem deaf_all : ((List.range 10).all fun p => (List.range 4).all fun id => deafRun (p + 1) id 59 1 0 (Mem.new id (p + 1))) = true := by decide +kernel
theorem deaf_ok (p id : Nat) (hp : 1 ≤ p) (hp1 : p ≤ 10) (hi : id < 4) : deafRun p id 59 1 0 (Mem.new id p) = true := by
  have h := List.all_eq_true.1 deaf_all (p - 1) (by simp; omega)
  have h2 := List.all_eq_true.1 h id (by simp; omega)
  rw [show p - 1 + 1 = p by omega] at h2
  have e : ((p - 1 : Nat) : Int) + 1 = (p : Int) := by omega
  rw [e] at h2
  exact h2
theorem deaf_step {p id n i e : Nat} {m : Mem} (hi : 1 ≤ i) (h : deafRun p id (n + 1) i e m = true) :
    (i % p = 0 → ∃ l, m.tick.2 = [l] ∧ l.msg.kind = 3 ∧ l.msg.view = ((e + 1 : Nat) : Int) + 1 ∧ l.to = (((e + 1 : Nat) : Int) + 1) % 4 ∧ l.msg.fro = id ∧ l.msg.sl = sealOf id 3 (((e + 1 : Nat) : Int) + 1) 0 ∧ l.msg.cert.view = 0) ∧
    (i % p ≠ 0 → id = 1 → i = 1 → 1 < p → ∃ q, m.tick.2 = [q] ∧ q.msg.kind = 1 ∧ q.to = -1 ∧ q.msg.view = 1) ∧
    (i % p ≠ 0 → ¬ (id = 1 ∧ i = 1 ∧ 1 < p) → m.tick.2 = []) ∧
    (i % p = 0 → ¬ (id = 1 ∧ i = 1 ∧ 1 < p)) ∧
    ∃ e1, e1 = (if i % p = 0 then e + 1 else e) ∧ m.tick.1.log = [] ∧ m.tick.1.view = (e1 : Int) + 1 ∧ m.tick.1.high.view = 0 ∧ deafRun p id n (i + 1) e1 m.tick.1 = true := by
  have hne : i % p = 0 → ¬ (id = 1 ∧ i = 1 ∧ 1 < p) := fun h0 h1 => by
    obtain ⟨_, rfl, h2⟩ := h1
    rw [Nat.mod_eq_of_lt h2] at h0
    omega
  by_cases h0 : i % p = 0
  · have hf : ¬ (id = 1 ∧ i = 1 ∧ 1 < p) := hne h0
    have hfb : (id == 1 && i == 1 && decide (1 < p)) = false := by
      rw [Bool.eq_false_iff]
      intro hh
      simp only [Bool.and_eq_true, beq_iff_eq, decide_eq_true_eq] at hh
      exact hf ⟨hh.1.1, hh.1.2, hh.2⟩
    have h0b : (i % p == 0) = true := by simp [h0]
    unfold deafRun at h
    simp only [h0b, if_true, Bool.and_eq_true, decide_eq_true_eq] at h
    obtain ⟨⟨h1, h2⟩, h3⟩ := h
    unfold deafOut at h1
    simp only [h0b, hfb, if_true] at h1
    refine ⟨fun _ => ?_, fun hh => absurd h0 hh, fun hh => absurd h0 hh, hne, e + 1, by rw [if_pos h0], h2.1, h2.2.1, h2.2.2, h3⟩
    cases hT : m.tick.2 with
    | nil => rw [hT] at h1; cases h1
    | cons l r =>
      rw [hT] at h1
      simp only [Bool.and_eq_true, decide_eq_true_eq] at h1
      obtain ⟨h4, h5⟩ := h1
      have h6 : r = [] := by simpa using h5
      exact ⟨l, by rw [h6], h4⟩
  · have h0b : (i % p == 0) = false := by simp [h0]
    unfold deafRun at h
    simp only [h0b, Bool.and_eq_true, decide_eq_true_eq] at h
    obtain ⟨⟨h1, h2⟩, h3⟩ := h
    unfold deafOut at h1
    simp only [h0b] at h1
    refine ⟨fun hh => absurd hh h0, fun _ a1 a2 a3 => ?_, fun _ hf => ?_, hne, e, by rw [if_neg h0], h2.1, h2.2.1, h2.2.2, h3⟩
    · have hfb : (id == 1 && i == 1 && decide (1 < p)) = true := by simp [a1, a2, a3]
      simp only [hfb, if_true] at h1
      cases hT : m.tick.2 with
      | nil => rw [hT] at h1; cases h1
      | cons q r =>
        rw [hT] at h1
        cases r with
        | nil => simp at h1; exact ⟨q, rfl, h1⟩
        | cons _ _ => cases h1
    · have hfb : (id == 1 && i == 1 && decide (1 < p)) = false := by
        rw [Bool.eq_false_iff]
        intro hh
        simp only [Bool.and_eq_true, beq_iff_eq, decide_eq_true_eq] at hh
        exact hf ⟨hh.1.1, hh.1.2, hh.2⟩
      simp only [hfb] at h1
      simpa using h1
end Go.Proofs.YtkehpnobidendaaDoor

namespace Go.Proofs.YtkehpnobidendaaDoor
open Go.RowKit

set_option maxRecDepth 100000 in
set_option maxHeartbeats 8000000 in
theorem kdeaf (pa ti me : Int) (p0 : -9223372036854775808 ≤ pa) (p1 : pa ≤ 9223372036854775807) (t0 : -9223372036854775808 ≤ ti) (t1 : ti ≤ 9223372036854775807) (m0 : -9223372036854775808 ≤ me) (m1 : me ≤ 9223372036854775807) (w : World) (ht : Tab w) :
    Calls Tryd.prog 4 #[.int .i64 pa, .int .i64 ti, .int .i64 me] w fun e w' => e = .returned (.bool true) ∧ Below w.heap.size w w' := by
  have HAW : Hid (Calls Tryd.prog 10 #[] w fun e w' => e = .returned (.bool true) ∧ Below w.heap.size w w') := kawake w ht
  have HT : Hid (Tab w) := ht
  have HP1 : Hid (∀ W, Calls Tryd.prog 13 #[.int .i64 pa, .int .i64 10] W fun e w' => e = .returned (.int .i64 (pickN pa 10)) ∧ W = w') := fun W => (kpick pa 10 p0 p1 (by decide) (by decide) W).mono (fun _ _ h => ⟨h.1, h.2.symm⟩)
  have HP2 : Hid (∀ W, Calls Tryd.prog 13 #[.int .i64 ti, .int .i64 60] W fun e w' => e = .returned (.int .i64 (pickN ti 60)) ∧ W = w') := fun W => (kpick ti 60 t0 t1 (by decide) (by decide) W).mono (fun _ _ h => ⟨h.1, h.2.symm⟩)
  have HP3 : Hid (∀ W, Calls Tryd.prog 13 #[.int .i64 me, .int .i64 4] W fun e w' => e = .returned (.int .i64 (pickN me 4)) ∧ W = w') := fun W => (kpick me 4 m0 m1 (by decide) (by decide) W).mono (fun _ _ h => ⟨h.1, h.2.symm⟩)
  have hp := pickN_lt pa 10 (by decide)
  have hT := pickN_lt ti 60 (by decide)
  have hd := pickN_lt me 4 (by decide)
  generalize pickN pa 10 = pp at hp HP1
  generalize pickN ti 60 = T at hT HP2
  generalize pickN me 4 = idn at hd HP3
  obtain ⟨P, hP⟩ : ∃ P, P = 1 + pp := ⟨_, rfl⟩
  have HPI : Hid ((1 : Int) + (pp : Int) = (P : Int)) := by show _ = _; omega
  have hpa : (0 : Int) ≤ (pp : Int) := by omega
  have hpb : (pp : Int) ≤ 9 := by omega
  have HPE : Hid (P = 1 + pp) := hP
  have HNW : Hid (∀ W, Tab W → Calls Tryd.prog 14 #[.int .i64 idn, .int .i64 (1 + (pp : Int))] W fun e w' => ∃ p, e = .returned (.tuple #[.pointer (some ⟨p, 0, none⟩), .int .i64 0]) ∧ (∃ S, PMem w' p S (Mem.new idn P) ∧ ∀ k, S k → W.heap.size ≤ k) ∧ Below W.heap.size W w') := fun W hW => by rw [HPI.out]; exact pnew_ok idn P (by simp [newOk]; omega) W hW
  have HDR : Hid (deafRun P idn 59 1 0 (Mem.new idn P) = true) := deaf_ok P idn (by omega) (by omega) hd
  have HMO : Hid (MOk (Mem.new idn P) 1) := mok_new idn P ⟨by omega, by omega, by omega, by omega⟩
  clear ht hP
  go_enter Tryd.func4, Tryd.ntmps4
  go_upto_region 3 with (first
    | (go_at_call 10; refine HAW.out.mono ?_; rintro e w1 ⟨rfl, hb1⟩; have HB1 : Hid (Below w.heap.size w w1) := hb1; clear hb1)
    | (go_at_call 13; refine (HP1.out _).mono ?_; rintro e w9 ⟨rfl, rfl⟩))
  go_upto_region 4 with (go_at_call 13; refine (HP2.out _).mono ?_; rintro e w9 ⟨rfl, rfl⟩)
  go_upto_region 5 with (go_at_call 13; refine (HP3.out _).mono ?_; rintro e w9 ⟨rfl, rfl⟩)
  have HT1 : Hid (Tab w1) := HT.out.below HB1.out
  go_upto_region 6 with (go_at_call 14; refine (HNW.out w1 HT1.out).mono ?_; rintro e w2 ⟨pm, rfl, hS, hb2⟩; have HS : Hid (∃ S, PMem w2 pm S (Mem.new idn P) ∧ ∀ k, S k → w1.heap.size ≤ k) := hS; have HB2 : Hid (Below w1.heap.size w1 w2) := hb2; clear hS hb2)
  obtain ⟨S, hpm, hSn⟩ := HS.out
  have HPM : Hid (PMem w2 pm S (Mem.new idn P)) := hpm
  have HSN : Hid (∀ k, S k → w1.heap.size ≤ k) := hSn
  have HTI : Hid ((T : Int) ≤ 59) := by show _ ≤ _; omega
  clear hpm hSn HS HAW HP1 HP2 HP3 HNW
  have hTI : (T : Int) ≤ 59 := HTI.out
  have hP0 : (P : Int) ≠ 0 := by have := HPE.out; omega
  have hPp : (0 : Int) < (P : Int) := by have := HPE.out; omega
  have hPle : (P : Int) ≤ 10 := by have := HPE.out; omega
  go_wp2
  rw [HPI.out]
  go_loopw [11, 12] (fun ee ii wr => ∃ (i e : Nat) (m : Mem), 1 ≤ i ∧ i ≤ T + 1 ∧ ii = .int .i64 i ∧ ee = .int .i64 e ∧ e ≤ i ∧ Hid (PMem wr pm S m) ∧ Hid (Fr S w2 wr) ∧ Hid (MOk m (1 + 2 * i)) ∧ Hid (deafRun P idn (60 - i) i e m = true) ∧ Hid (m.log = [] ∧ m.view = (e : Int) + 1 ∧ m.high.view = 0)) (fun _ ii _ => T + 1 - (intOf ii).toNat)
  case atStart => exact ⟨1, 0, _, by omega, by omega, rfl, rfl, by omega, HPM.out, Fr.refl _ _, HMO.out.mono (by omega), HDR.out, ⟨rfl, rfl, rfl⟩⟩
  case round =>
    clear HPM HDR HMO
    obtain ⟨i, e, m, hi1, hi2, rfl, rfl, hei, HM, HFR, HO, HD, HL⟩ := hrel
    have hiI0 : (1 : Int) ≤ (i : Int) := by omega
    have heI0 : (0 : Int) ≤ (e : Int) := by omega
    have heI : (e : Int) ≤ 60 := by omega
    by_cases hiT : i ≤ T
    rotate_left
    · have hiI : ¬ (i : Int) ≤ (T : Int) := by omega
      obtain ⟨hl0, hv0, hh0⟩ := HL.out
      have HLO : Hid (Calls Tryd.prog 16 #[.pointer (some ⟨pm, 0, none⟩)] wr fun e' w' => ∃ a cap, e' = .returned (.slice a 0 cap) ∧ Below wr.heap.size wr w') := by
        refine (plog wr pm S m HM.out (by rw [hl0]; exact Nat.zero_le _) (by rw [hl0]; intro n hn; cases hn)).mono ?_
        rintro e' w' ⟨v, rfl, hr, hb⟩
        have hcl : m.commands.length = 0 := by unfold Mem.commands; rw [hl0]; rfl
        rw [hcl] at hr
        obtain ⟨a, cap, rfl⟩ := hr.isSlice
        exact ⟨a, cap, rfl, hb⟩
      have HVW : Hid (∀ W, Below wr.heap.size wr W → Calls Tryd.prog 17 #[.pointer (some ⟨pm, 0, none⟩)] W fun e' w' => e' = .returned (.int .i64 ((e : Int) + 1)) ∧ W = w') := fun W hW => by
        have := pview W pm S m (HM.out.below hW)
        rw [hv0] at this
        exact this.mono (fun _ _ h => ⟨h.1, h.2.symm⟩)
      have HHI : Hid (∀ W, Below wr.heap.size wr W → Calls Tryd.prog 18 #[.pointer (some ⟨pm, 0, none⟩)] W fun e' w' => (∃ (hb : Nat) (h0 h1 h2 h3 : Int), e' = .returned (.agg #[.int .i64 0, .int .u64 hb, .int .u64 h0, .int .u64 h1, .int .u64 h2, .int .u64 h3])) ∧ Below W.heap.size W w') := fun W hW => by
        refine (phigh W pm S m (HM.out.below hW)).mono ?_
        rintro e' w' ⟨rfl, hb⟩
        refine ⟨?_, hb⟩
        generalize m.high = c at hh0
        obtain ⟨cv, cb, s0, s1, s2, s3⟩ := c
        dsimp only at hh0
        subst hh0
        exact ⟨_, _, _, _, _, rfl⟩
      have HBE : Hid (Below w.heap.size w wr) := by
        refine ⟨HFR.out.os.trans (HB2.out.os.trans HB1.out.os), HFR.out.tape.trans (HB2.out.tape.trans HB1.out.tape), HFR.out.output.trans (HB2.out.output.trans HB1.out.output), Nat.le_trans (Nat.le_trans HB1.out.size HB2.out.size) HFR.out.size, fun b hb => ?_⟩
        have hb1 : b < w1.heap.size := Nat.lt_of_lt_of_le hb HB1.out.size
        exact (HFR.out.block b (Nat.lt_of_lt_of_le hb1 HB2.out.size) (fun h1 => by have := HSN.out b h1; omega)).trans ((HB2.out.block b hb1).trans (HB1.out.block b hb))
      clear HM HFR HO HD HL hl0 hv0 hh0
      go_upto_region 27 with (go_at_call 16; refine HLO.out.mono ?_; rintro e' w3 ⟨a, cap, rfl, hb3⟩; have HB3 : Hid (Below wr.heap.size wr w3) := hb3; clear hb3)
      go_upto_region 28 with (go_at_call 17; refine (HVW.out w3 HB3.out).mono ?_; rintro e' w4 ⟨rfl, rfl⟩)
      go_upto_region 29 with (go_at_call 18; refine (HHI.out w3 HB3.out).mono ?_; rintro e' w5 ⟨⟨hb, h0, h1, h2, h3, rfl⟩, hb5⟩; have HB5 : Hid (Below w3.heap.size w3 w5) := hb5; clear hb5)
      go_wp2
      go_ret
      exact ⟨rfl, bnext HBE.out (bnext HB3.out (bnext HB5.out (below_alloc _ _)))⟩
    · have hiI : (i : Int) ≤ (T : Int) := by omega
      have hD2 := HD.out
      rw [show 60 - i = (60 - (i + 1)) + 1 by omega] at hD2
      obtain ⟨dA, dB, dC, dN, e1, he1, dl, dv, dh, dr⟩ := deaf_step hi1 hD2
      have HTK : Hid (Calls Tryd.prog 15 #[.pointer (some ⟨pm, 0, none⟩)] wr fun e w' => ∃ v, e = .returned v ∧ PGave wr w' pm S m.tick.1 v m.tick.2) := by
        have hmo := HO.out
        have a1 := hmo.w; have a2 := hmo.e; have a3 := hmo.b
        exact ptick wr pm S m HM.out hmo.iv hmo.i2.eo (by omega) (by omega) (by omega)
      have HM2 : Hid (MOk m.tick.1 (1 + 2 * (i + 1))) := (mok_tick HO.out).mono (by omega)
      have HTB : Hid (Tab wr) := HM.out.tab
      clear hD2 HD HO HM HL
      generalize m.tick = r at *
      obtain ⟨m2, out⟩ := r
      dsimp only at *
      by_cases hm : i % P = 0
      · obtain ⟨l, rfl, l1, l2, l3, l4, l5, l6⟩ := dA hm
        have hne := dN hm
        clear dA dB dC dN
        have hmI : ((i : Int).tmod (P : Int) == 0) = true := by
          rw [Int.tmod_eq_emod_of_nonneg (by omega)]
          have : ((i % P : Nat) : Int) = (i : Int) % (P : Int) := by omega
          rw [← this, hm]; rfl
        go_upto_region 16 with (go_at_call 15; refine HTK.out.mono ?_; rintro e9 w3 ⟨v, rfl, hg⟩; obtain ⟨a, cap, rfl, hrow⟩ := hg.row; have HG : Hid (PMem w3 pm S m2 ∧ Fr S wr w3) := ⟨hg.pm, hg.fr⟩; have HR : Hid (Row w3 (fun k => wr.heap.size ≤ k) 42 20 (.slice a 1 cap) 1 ([l].flatMap Ltr.cells)) := hrow; clear hg hrow)
        obtain ⟨g, off, rfl, _, hg, _⟩ := HR.out.place (by omega)
        have HC : Hid (∀ j, j < 20 → w3.cell? ⟨g, off + j, none⟩ = (Ltr.cells l)[j]?) := fun j hj => by
          have HR' : Row w3 (fun k => wr.heap.size ≤ k) 42 20 (.slice (some ⟨g, off, none⟩) [l].length cap) [l].length ([l].flatMap Ltr.cells) := HR.out
          have := HR'.elem (show ∀ l : Ltr, l.cells.length = 20 from fun _ => rfl) 0 j (Nat.zero_lt_one) hj
          rw [Nat.zero_mul, Nat.zero_add] at this
          exact this
        obtain ⟨l0, ⟨xk, xf, xv, bl, nu, ⟨cv, cb, k0, k1, k2, k3⟩, sl⟩⟩ := l
        dsimp only at l1 l2 l3 l4 l5 l6
        have E1 : (((e + 1 : Nat) : Int) + 1) = (e : Int) + 1 + 1 := by omega
        rw [E1] at l2 l3 l5
        rw [← Int.tmod_eq_emod_of_nonneg (by omega)] at l3
        subst l1 l2 l3 l4 l5 l6
        have HQ : Hid (∀ c : Cls w3, Calls Tryd.prog 11 #[.int .i64 idn, .int .i64 3, .int .i64 ((e : Int) + 1 + 1), .int .u64 0] c.w fun e' w' => e' = .returned (.int .u64 (sealOf idn 3 ((e : Int) + 1 + 1) 0)) ∧ Below c.w.heap.size c.w w') := fun c => pseal idn 3 ((e : Int) + 1 + 1) 0 (by omega) (by omega) (by decide) (by decide) (by omega) (by omega) (by decide) c.w (HG.out.1.below c.b).tab.is
        generalize sealOf idn 3 ((e : Int) + 1 + 1) 0 = se at HQ HC
        have d : ∀ (c : Cls w3) j, j < 20 → c.w.cell? ⟨g, off + j, none⟩ = w3.cell? ⟨g, off + j, none⟩ := fun c j _ => World.cell?_of_block (c.b.block g hg)
        have c0 : ∀ c : Cls w3, c.w.cell? ⟨g, off, none⟩ = some (.int .i64 (((e : Int) + 1 + 1).tmod 4)) := fun c => (d c 0 (by omega)).trans (HC.out 0 (by omega))
        have c1 : ∀ c : Cls w3, c.w.cell? ⟨g, off + 1, none⟩ = some (.int .i64 3) := fun c => (d c 1 (by omega)).trans (HC.out 1 (by omega))
        have c2 : ∀ c : Cls w3, c.w.cell? ⟨g, off + 2, none⟩ = some (.int .i64 idn) := fun c => (d c 2 (by omega)).trans (HC.out 2 (by omega))
        have c3 : ∀ c : Cls w3, c.w.cell? ⟨g, off + 3, none⟩ = some (.int .i64 ((e : Int) + 1 + 1)) := fun c => (d c 3 (by omega)).trans (HC.out 3 (by omega))
        have c13 : ∀ c : Cls w3, c.w.cell? ⟨g, off + 13, none⟩ = some (.int .i64 0) := fun c => (d c 13 (by omega)).trans (HC.out 13 (by omega))
        have c19 : ∀ c : Cls w3, c.w.cell? ⟨g, off + 19, none⟩ = some (.int .u64 se) := fun c => (d c 19 (by omega)).trans (HC.out 19 (by omega))
        clear d HC
        refine wp_region_cls w3 (Below.refl _ _) (by kernel_rfl) (by kernel_rfl) ?_
        repeat (go_big_quiet_step ((go_at_call 11; exact Calls.cls (HQ.out _))))
        refine wpQuiet_nil ?_
        rintro W5 ⟨⟨_, hW5⟩, rfl⟩
        have HB5 : Hid (Below w3.heap.size w3 W5) := hW5
        clear hW5 c0 c1 c2 c3 c13 c19
        have hfst : ((idn : Int) == 1) = false ∨ (((idn : Int) == 1) = true ∧ ((i : Int) == 1) = false) ∨ (((idn : Int) == 1) = true ∧ ((i : Int) == 1) = true ∧ ¬ (1 : Int) < (P : Int)) := by
          by_cases q1 : idn = 1
          · by_cases q2 : i = 1
            · exact .inr (.inr ⟨beq_iff_eq.2 (by rw [q1]; rfl), beq_iff_eq.2 (by rw [q2]; rfl), by omega⟩)
            · exact .inr (.inl ⟨beq_iff_eq.2 (by rw [q1]; rfl), beq_eq_false_iff_ne.2 (by omega)⟩)
          · exact .inl (beq_eq_false_iff_ne.2 (fun h => q1 (Int.ofNat_inj.1 h)))
        rcases hfst with f1 | ⟨f1, f2⟩ | ⟨f1, f2, f3⟩
        all_goals (
          go_wp2
          go_roundw
          case rel =>
            have hE : e1 = e + 1 := by rw [he1, if_pos hm]
            subst hE
            have hpm5 := HG.out.1.below HB5.out
            exact ⟨i + 1, e + 1, m2, by omega, by omega, by go_num, by go_num, by omega, hpm5, HFR.out.trans (HG.out.2.trans (Fr.of_below HB5.out) (fun _ h => .inl h)) (fun _ h => .inl h), HM2.out, dr, ⟨dl, dv, dh⟩⟩
          case measure => simp [intOf]; omega)
      · have hmI : ((i : Int).tmod (P : Int) == 0) = false := by
          rw [Int.tmod_eq_emod_of_nonneg (by omega)]
          have : ((i % P : Nat) : Int) = (i : Int) % (P : Int) := by omega
          rw [← this]
          exact beq_eq_false_iff_ne.2 (by omega)
        have hmJ : ¬ (i : Int).tmod (P : Int) = 0 := beq_eq_false_iff_ne.1 hmI
        have hE : e1 = e := by rw [he1, if_neg hm]
        clear he1
        subst hE
        by_cases hf : idn = 1 ∧ i = 1 ∧ 1 < P
        · obtain ⟨hf1, hf2, hP1⟩ := hf
          obtain ⟨q, rfl, l1, l2, l3⟩ := dB hm hf1 hf2 hP1
          have f1 : ((idn : Int) == 1) = true := beq_iff_eq.2 (by rw [hf1]; rfl)
          have f2 : ((i : Int) == 1) = true := beq_iff_eq.2 (by rw [hf2]; rfl)
          have HF2 : Hid (i = 1) := hf2
          clear hf1 hf2
          clear dA dB dC dN
          have hPI1 : (1 : Int) < (P : Int) := by omega
          go_upto_region 21 with (go_at_call 15; refine HTK.out.mono ?_; rintro e9 w3 ⟨v, rfl, hg⟩; obtain ⟨a, cap, rfl, hrow⟩ := hg.row; have HG : Hid (PMem w3 pm S m2 ∧ Fr S wr w3) := ⟨hg.pm, hg.fr⟩; have HR : Hid (Row w3 (fun k => wr.heap.size ≤ k) 42 20 (.slice a 1 cap) 1 ([q].flatMap Ltr.cells)) := hrow; clear hg hrow)
          obtain ⟨g, off, rfl, _, hg, _⟩ := HR.out.place (by omega)
          have HC : Hid (∀ j, j < 20 → w3.cell? ⟨g, off + j, none⟩ = (Ltr.cells q)[j]?) := fun j hj => by
            have HR' : Row w3 (fun k => wr.heap.size ≤ k) 42 20 (.slice (some ⟨g, off, none⟩) [q].length cap) [q].length ([q].flatMap Ltr.cells) := HR.out
            have := HR'.elem (show ∀ l : Ltr, l.cells.length = 20 from fun _ => rfl) 0 j (Nat.zero_lt_one) hj
            rw [Nat.zero_mul, Nat.zero_add] at this
            exact this
          obtain ⟨l0, ⟨xk, xf, xv, bl, nu, ct, sl⟩⟩ := q
          dsimp only at l1 l2 l3
          subst l1 l2 l3
          have c0 : w3.cell? ⟨g, off, none⟩ = some (.int .i64 (-1)) := HC.out 0 (by omega)
          have c1 : w3.cell? ⟨g, off + 1, none⟩ = some (.int .i64 1) := HC.out 1 (by omega)
          have c3 : w3.cell? ⟨g, off + 3, none⟩ = some (.int .i64 1) := HC.out 3 (by omega)
          go_wp2
          go_roundw
          case rel => exact ⟨i + 1, e1, m2, by omega, by omega, by go_num, by go_num, by omega, HG.out.1, HFR.out.trans HG.out.2 (fun _ h => .inl h), HM2.out, dr, ⟨dl, dv, dh⟩⟩
          case measure => simp [intOf]; omega
        · obtain rfl := dC hm hf
          clear dA dB dC dN
          have hfst : ((idn : Int) == 1) = false ∨ (((idn : Int) == 1) = true ∧ ((i : Int) == 1) = false) ∨ (((idn : Int) == 1) = true ∧ ((i : Int) == 1) = true ∧ ¬ (1 : Int) < (P : Int)) := by
            by_cases q1 : idn = 1
            · by_cases q2 : i = 1
              · exact .inr (.inr ⟨beq_iff_eq.2 (by rw [q1]; rfl), beq_iff_eq.2 (by rw [q2]; rfl), by omega⟩)
              · exact .inr (.inl ⟨beq_iff_eq.2 (by rw [q1]; rfl), beq_eq_false_iff_ne.2 (by omega)⟩)
            · exact .inl (beq_eq_false_iff_ne.2 (fun h => q1 (Int.ofNat_inj.1 h)))
          rcases hfst with f1 | ⟨f1, f2⟩ | ⟨f1, f2, f3⟩
          all_goals (
            go_wp2_with (go_at_call 15; refine HTK.out.mono ?_; rintro e9 w3 ⟨v, rfl, hg⟩; obtain ⟨a, cap, rfl, hrow⟩ := hg.row; have HG : Hid (PMem w3 pm S m2 ∧ Fr S wr w3) := ⟨hg.pm, hg.fr⟩; clear hg hrow)
            go_roundw
            case rel => exact ⟨i + 1, e1, m2, by omega, by omega, by go_num, by go_num, by omega, HG.out.1, HFR.out.trans HG.out.2 (fun _ h => .inl h), HM2.out, dr, ⟨dl, dv, dh⟩⟩
            case measure => simp [intOf]; omega)
end Go.Proofs.YtkehpnobidendaaDoor
