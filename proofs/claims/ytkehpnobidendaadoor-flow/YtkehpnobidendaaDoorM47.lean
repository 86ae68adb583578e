/- parleykeep's awake: true, whatever the world: the plain run by the kernel. parleykeep's agree. parleykeep's Agree: the plain side: two quorums have a member in common; what is certified lies behind what is committed; the cluster as such a system. No program in it. parleykeep's Agree: the plain side: what a member's calls keep. No program in it. parleykeep's Agree: the plain side: letters go out; the logs; a message comes, a member ticks. No program in it. parleykeep's Agree: the plain side: however long the script, the lists of members and cluster stay short: views end at 1000, and each letter of a member's rises its view, its vote or its proposals. No program in it. -/
import Derived.Test.YtkehpnobidendaaDoorM45
import Derived.Test.YtkehpnobidendaaDoorM46
import Derived.Deep.RegionHeld3
namespace Go.Proofs.YtkehpnobidendaaDoor
open Go.RowKit

/-! The plain run. -/
theorem awake2_ok : awake2.2 = true := by decide +kernel
theorem awake3_ok : awake3.2 = (40, true) := by decide +kernel
theorem awake_logs : ((awake3.1.w0.log.headD ⟨#[]⟩).toList == bOne.toList) = true ∧ ((awake3.1.w1.log.headD ⟨#[]⟩).toList == bOne.toList) = true ∧ ((awake3.1.w2.log.headD ⟨#[]⟩).toList == bOne.toList) = true ∧ ((awake3.1.w3.log.headD ⟨#[]⟩).toList == bOne.toList) = true := by decide +kernel
theorem awake_logn : awake3.1.w0.log.length ≠ 0 ∧ awake3.1.w1.log.length ≠ 0 ∧ awake3.1.w2.log.length ≠ 0 ∧ awake3.1.w3.log.length ≠ 0 := by decide +kernel
theorem awake_log (k : Nat) : ∃ s r, (awake3.1.was k).log = s :: r ∧ (s.toList == bOne.toList) = true := by
  have key : ∀ l : List ByteArray, l.length ≠ 0 → ((l.headD ⟨#[]⟩).toList == bOne.toList) = true → ∃ s r, l = s :: r ∧ (s.toList == bOne.toList) = true := fun l h1 h2 => by
    cases l with
    | nil => exact absurd rfl h1
    | cons s r => exact ⟨s, r, rfl, h2⟩
  unfold Clu.was
  split
  · exact key _ awake_logn.1 awake_logs.1
  · split
    · exact key _ awake_logn.2.1 awake_logs.2.1
    · split
      · exact key _ awake_logn.2.2.1 awake_logs.2.2.1
      · exact key _ awake_logn.2.2.2 awake_logs.2.2.2
theorem pick_small {k : Nat} (h : k < 4) : pickN (k : Int) 4 = k := by
  rcases (by omega : k = 0 ∨ k = 1 ∨ k = 2 ∨ k = 3) with rfl | rfl | rfl | rfl <;> decide
theorem allTick_step {K : Clu} {f k : Nat} : K.allTick (f + 1) k = if (K.ticks k).2 then (K.ticks k).1.allTick f (k + 1) else K.ticks k := rfl
/-- Where what a member had lies. -/
theorem KSit.wcells {w : World} {p : Nat} {A : Nat → Nat → Prop} {ps : List (Option Nat)} {K : Clu} (h : KSit w p A ps K) (k : Nat) (hk : k < 4) : ∃ a cap, w.cell? ⟨p, 5 + k * 4 + 3, none⟩ = some (.slice a (K.was k).log.length cap) ∧ Row w (A 0) 9 1 (.slice a (K.was k).log.length cap) (K.was k).log.length ((K.was k).log.flatMap scells) := by
  obtain ⟨vm, vl, vc, vv, l0, l1, l2, l3, vb, g1⟩ := h.k.ex
  rcases (by omega : k = 0 ∨ k = 1 ∨ k = 2 ∨ k = 3) with rfl | rfl | rfl | rfl
  · have hr : Row w (A 0) 9 1 l0 K.w0.log.length (K.w0.log.flatMap scells) := g1.row 4 _ _ _ rfl rfl rfl
    obtain ⟨am, cm, rfl⟩ := hr.isSlice
    exact ⟨am, cm, cell_at g1.box 8, hr⟩
  · have hr : Row w (A 0) 9 1 l1 K.w1.log.length (K.w1.log.flatMap scells) := g1.row 5 _ _ _ rfl rfl rfl
    obtain ⟨am, cm, rfl⟩ := hr.isSlice
    exact ⟨am, cm, cell_at g1.box 12, hr⟩
  · have hr : Row w (A 0) 9 1 l2 K.w2.log.length (K.w2.log.flatMap scells) := g1.row 6 _ _ _ rfl rfl rfl
    obtain ⟨am, cm, rfl⟩ := hr.isSlice
    exact ⟨am, cm, cell_at g1.box 16, hr⟩
  · have hr : Row w (A 0) 9 1 l3 K.w3.log.length (K.w3.log.flatMap scells) := g1.row 7 _ _ _ rfl rfl rfl
    obtain ⟨am, cm, rfl⟩ := hr.isSlice
    exact ⟨am, cm, cell_at g1.box 20, hr⟩
/-- All that the cluster is lies in new memory: what lay before lies as it lay. -/
theorem kbelow {w w1 w2 : World} {A : Nat → Nat → Prop} (hb : Below w.heap.size w w1) (hf : Fr (UA A) w1 w2) (hA : ∀ b, UA A b → w.heap.size ≤ b) : Below w.heap.size w w2 :=
  ⟨hf.os.trans hb.os, hf.tape.trans hb.tape, hf.output.trans hb.output, Nat.le_trans hb.size hf.size, fun b hb2 => (hf.block b (Nat.lt_of_lt_of_le hb2 hb.size) (fun h1 => by have := hA b h1; omega)).trans (hb.block b hb2)⟩
set_option maxRecDepth 100000 in
set_option maxHeartbeats 4000000 in
theorem kawake (w : World) (ht : Tab w) :
    Calls Tryd.prog 10 #[] w fun e w' => e = .returned (.bool true) ∧ Below w.heap.size w w' := by
  have HBG : Hid (Calls Tryd.prog 19 #[.int .i64 (-1), .int .i64 9] w fun e w' => KBegun w (-1) 9 e w') := kbegins w ht (-1) 9 (by decide) (by decide)
  go_enter Tryd.func10, Tryd.ntmps10
  go_upto_region 2 with (go_at_call 19; refine HBG.out.mono ?_; rintro e w1 ⟨p, A, ps, rfl, hs, hn, hb⟩; have HS : Hid (KSit w1 p A ps (Clu.begins (-1) 9)) := hs; have HN : Hid (∀ b, UA A b → w.heap.size ≤ b) := hn; have HB : Hid (Below w.heap.size w w1) := hb; clear hs hn hb)
  obtain ⟨g, off, cm, hgA, hc0, hci⟩ := HS.out.cells
  have hat : (Clu.begins (-1) 9).memAt 1 = some (Mem.new 1 9) := rfl
  obtain ⟨pm, hq, hpm⟩ := HS.out.some1 (i := 1) (by omega) hat
  have hc1 := hci 1 (by omega)
  rw [hq] at hc1
  dsimp only [mptr, Option.map] at hc1
  have HSU : Hid (Calls Tryd.prog 21 #[.pointer (some ⟨pm, 0, none⟩), .string ⟨#[111, 110, 101]⟩] w1 fun e w' => e = .returned (.int .i64 0) ∧ ∃ S', PMem w' pm S' ((Mem.new 1 9).submit bOne).1 ∧ Grow (A 2) w1 S' ∧ Fr (A 2) w1 w') := psubmit w1 pm (A 2) (Mem.new 1 9) hpm bOne (by decide) (by decide)
  have HPM : Hid (ps.getD 1 none = some pm) := hq
  have HK1 : Hid (KOk awake1 1) := submits_kok (begins_kok (-1) 9 (by decide) (by decide)) bOne
  have HE1 : Hid (awake1 = (Clu.begins (-1) 9).setMem 1 ((Mem.new 1 9).submit bOne).1) := rfl
  have HFL : Hid (awake3 = awake2.1.flows 0 40 ∧ awake2 = awake1.allTick 4 0) := ⟨rfl, rfl⟩
  have HA2 : Hid (awake2.2 = true) := awake2_ok
  have HA3 : Hid (awake3.2 = (40, true)) := awake3_ok
  have HLG : Hid (∀ k, ∃ s r, (awake3.1.was k).log = s :: r ∧ (s.toList == bOne.toList) = true) := awake_log
  have HK0 : Hid ((Clu.begins (-1) 9).mem.length = 4) := rfl
  clear hat hq hpm hci hgA HBG ht
  generalize awake3 = R3 at *
  generalize awake2 = R2 at *
  generalize awake1 = R1 at *
  generalize Clu.begins (-1) 9 = K0 at *
  generalize ((Mem.new 1 9).submit bOne).1 = m1 at *
  go_upto_region 5 with (go_at_call 21; refine HSU.out.mono ?_; rintro e w2 ⟨rfl, S2, hm2, hg2, hf2⟩; have HM2 : Hid (PMem w2 pm S2 m1 ∧ Grow (A 2) w1 S2 ∧ Fr (A 2) w1 w2) := ⟨hm2, hg2, hf2⟩; clear hm2 hg2 hf2)
  have HS1 : Hid (KSit w2 p (updA A 2 S2) ps R1) := by rw [HE1.out]; exact HS.out.turn HK0.out (i := 1) (by omega) HPM.out HM2.out.1 HM2.out.2.1 HM2.out.2.2
  have HG1 : Hid (Grow (UA A) w1 (UA (updA A 2 S2)) ∧ Fr (UA A) w1 w2) := ⟨grow_u (i := 2) HM2.out.2.1, fr_u (i := 2) (by omega) HM2.out.2.2⟩
  clear HS HE1 HM2 hc0 hc1 HSU HPM HK0
  go_wp2
  go_loopw [2, 4] (fun o kk wr => ∃ (k : Nat) (A1 : Nat → Nat → Prop) (K : Clu), k ≤ 4 ∧ o = .bool true ∧ kk = .int .i64 k ∧ Hid (KSit wr p A1 ps K ∧ Grow (UA A) w1 (UA A1) ∧ Fr (UA A) w1 wr) ∧ Hid (KOk K (1 + 2 * k)) ∧ Hid (R2 = K.allTick (4 - k) k)) (fun _ kk _ => 4 - (intOf kk).toNat)
  case atStart => exact ⟨0, _, R1, by omega, rfl, rfl, ⟨HS1.out, HG1.out.1, HG1.out.2⟩, HK1.out, HFL.out.2⟩
  case round =>
    clear HS1 HG1 HK1
    obtain ⟨k, A1, K, hk, rfl, rfl, hS, hO, hE⟩ := hrel
    have hk0 : (0 : Int) ≤ (k : Int) := by omega
    by_cases hk4 : k < 4
    · have hkI : (k : Int) < 4 := by omega
      have hst : (K.ticks k).2 = true ∧ R2 = (K.ticks k).1.allTick (4 - (k + 1)) (k + 1) := by
        have h1 := hE.out
        rw [show 4 - k = (4 - (k + 1)) + 1 by omega, allTick_step] at h1
        cases hb : (K.ticks k).2 with
        | true => rw [hb] at h1; exact ⟨rfl, h1⟩
        | false => rw [hb] at h1; have h2 := HA2.out; rw [h1] at h2; rw [show (if false = true then _ else K.ticks k) = K.ticks k from rfl, hb] at h2; cases h2
      have HH : Hid (Calls Tryd.prog 22 #[.pointer (some ⟨p, 0, none⟩), .agg #[.int .i64 1, .int .i64 k, .int .i64 0]] wr fun e w' => e = .returned (.bool true) ∧ KGoes wr w' p A1 ps (K.ticks k).1) := by
        have h1 := khappens1 wr p A1 ps K hS.out.1 _ hO.out (by omega) k 0 (by omega) (by omega)
        rw [pick_small hk4, hst.1] at h1
        exact h1
      have HO2 : Hid (KOk (K.ticks k).1 (1 + 2 * (k + 1))) := ticks_kok hO.out hk4
      have HE2 : Hid (R2 = (K.ticks k).1.allTick (4 - (k + 1)) (k + 1)) := hst.2
      clear hE hst
      generalize (K.ticks k).1 = K2 at *
      go_wp2_with (go_at_call 22; refine HH.out.mono ?_; rintro e w3 ⟨rfl, hg3⟩; have HG3 : Hid (KGoes wr w3 p A1 ps K2) := hg3; clear hg3)
      go_roundw
      case rel =>
        obtain ⟨A2, z1, z2⟩ := HG3.out.ex
        exact ⟨k + 1, A2, K2, by omega, rfl, by go_num, ⟨z1, hS.out.2.1.trans hS.out.2.2.size z2, hS.out.2.2.grow hS.out.2.1 HG3.out.fr⟩, HO2.out, HE2.out⟩
      case measure => simp [intOf]; omega
    · have hkI : ¬ (k : Int) < 4 := by omega
      have hke : k = 4 := by omega
      subst hke
      have hR2 : R2 = (K, true) := hE.out
      have HF : Hid (Calls Tryd.prog 23 #[.pointer (some ⟨p, 0, none⟩), .int .i64 0, .int .i64 40] wr fun e w' => e = .returned (.tuple #[.int .i64 40, .bool true]) ∧ KGoes wr w' p A1 ps R3.1) := by
        have h0 : K.flows 0 40 = R3 := by rw [HFL.out.1, hR2]
        have h1 := kflows wr p A1 ps K hS.out.1 _ hO.out 0 40 (by omega) (by omega)
        rw [h0, HA3.out] at h1
        exact h1.mono (fun e w' h => ⟨h.1, h.2.1⟩)
      clear hR2 hE HFL HA2 HA3 hO
      go_upto_region 10 with (go_at_call 23; refine HF.out.mono ?_; rintro e w3 ⟨rfl, hg3⟩; have HG3 : Hid (KGoes wr w3 p A1 ps R3.1) := hg3; clear hg3)
      have HBB : Hid (Below w.heap.size w w3) := kbelow HB.out (hS.out.2.2.grow hS.out.2.1 HG3.out.fr) HN.out
      obtain ⟨A3, hs3, _⟩ := HG3.out.ex
      have HS3 : Hid (KSit w3 p A3 ps R3.1) := hs3
      clear hs3 HG3 HF hS HB HN
      go_wp2
      go_loopw [7] (fun kk w' => ∃ (j : Nat), j ≤ 4 ∧ kk = .int .i64 j ∧ Hid (w' = w3)) (fun kk _ => 4 - (intOf kk).toNat)
      case atStart => exact ⟨0, by omega, rfl, rfl⟩
      case round =>
        obtain ⟨j, hj, rfl, hw3⟩ := hrel
        obtain rfl : wr = w3 := hw3.out
        have hj0 : (0 : Int) ≤ (j : Int) := by omega
        by_cases hj4 : j < 4
        · have hjI : (j : Int) < 4 := by omega
          obtain ⟨a, cap, hwc, hrow⟩ := HS3.out.wcells j hj4
          obtain ⟨s, r, hlog, hse⟩ := HLG.out j
          rw [hlog] at hwc hrow
          obtain ⟨gl, ol, rfl, _, hgl, hcp⟩ := hrow.place (by simp)
          have sl : ∀ x : ByteArray, (scells x).length = 1 := fun _ => rfl
          have hs0 := hrow.elem sl 0 0 (by simp) (by omega)
          have hs1 : wr.cell? ⟨gl, ol, none⟩ = some (.string s) := by simpa [scells] using hs0
          simp only [List.length_cons] at hwc
          have hrl : (0 : Int) < ((r.length + 1 : Nat) : Int) := by omega
          have hb1 : bOne.toList = [111, 110, 101] := by decide +kernel
          have hse2 : (s.toList == [111, 110, 101]) = true := by rw [← hb1]; exact hse
          have hrz : (((r.length : Nat) : Int) + 1 == 0) = false := by simp; omega
          clear hse hb1
          clear hlog hrow hs0 sl
          go_wp2
          go_roundw
          case rel => exact ⟨j + 1, by omega, by go_num, by first | exact trivial | exact rfl⟩
          case measure => simp [intOf]; omega
        · have hjI : ¬ (j : Int) < 4 := by omega
          go_wp2
          go_ret
          exact ⟨rfl, HBB.out⟩
end Go.Proofs.YtkehpnobidendaaDoor

namespace Go.Proofs.YtkehpnobidendaaDoor
open Go.RowKit

/-- Is one of two logs the beginning of the other? -/
def Clu.agr (K : Clu) (i k : Nat) : Bool := isPrefix (K.was i).log (K.was k).log || isPrefix (K.was k).log (K.was i).log
def Clu.agree (K : Clu) : Bool := (List.range 4).all fun i => (List.range i).all fun k => K.agr i k
theorem agree_yes {K : Clu} (h : ∀ i k, i < 4 → k < i → K.agr i k = true) : K.agree = true := by
  unfold Clu.agree
  rw [List.all_eq_true]
  intro i hi
  rw [List.all_eq_true]
  intro k hk
  exact h i k (by simpa using hi) (by simpa using hk)
theorem agree_no {K : Clu} {i k : Nat} (hi : i < 4) (hk : k < i) (h : K.agr i k = false) : K.agree = false := by
  unfold Clu.agree
  rw [List.all_eq_false]
  refine ⟨i, by simpa using hi, ?_⟩
  rw [Bool.not_eq_true, List.all_eq_false]
  exact ⟨k, by simpa using hk, by rw [h]; decide⟩
set_option maxRecDepth 100000 in
set_option maxHeartbeats 4000000 in
theorem kagree (w : World) (p : Nat) (A : Nat → Nat → Prop) (ps : List (Option Nat)) (K : Clu) (h : KSit w p A ps K) (hwl : ∀ k, (K.was k).log.length ≤ 1700000000000) :
    Calls Tryd.prog 24 #[.pointer (some ⟨p, 0, none⟩)] w fun e w' => e = .returned (.bool K.agree) ∧ Below w.heap.size w w' := by
  have HS : Hid (KSit w p A ps K) := h
  have HWL : Hid (∀ k, (K.was k).log.length ≤ 1700000000000) := hwl
  have hpl : p < w.heap.size := h.k.lt
  clear h hwl
  go_enter Tryd.func24, Tryd.ntmps24
  go_wp2
  go_loopw [3] (fun ii wr => ∃ (i : Nat), i ≤ 4 ∧ ii = .int .i64 i ∧ Hid (Below w.heap.size w wr) ∧ Hid (∀ a b, a < i → b < a → K.agr a b = true)) (fun ii _ => 4 - (intOf ii).toNat)
  case atStart => exact ⟨0, by omega, rfl, Below.refl _ _, fun a b h _ => by omega⟩
  case round =>
    obtain ⟨i, hi, rfl, hbw, hal⟩ := hrel
    have hi0 : (0 : Int) ≤ (i : Int) := by omega
    by_cases hi4 : i < 4
    rotate_left
    · have hiI : ¬ (i : Int) < 4 := by omega
      have HY : Hid (K.agree = true) := agree_yes (fun a b h1 h2 => hal.out a b (by omega) h2)
      go_wp2
      go_ret
      rw [HY.out]
      exact ⟨rfl, hbw.out⟩
    have hiI : (i : Int) < 4 := by omega
    go_wp2
    go_loopw [4] (fun kk w' => ∃ (k : Nat), k ≤ i ∧ kk = .int .i64 k ∧ Hid (Below w.heap.size w w') ∧ Hid (∀ b, b < k → K.agr i b = true)) (fun kk _ => 4 - (intOf kk).toNat)
    case atStart => exact ⟨0, by omega, rfl, hbw.out, fun b h => by omega⟩
    case round =>
      clear hbw
      obtain ⟨k, hk, rfl, hbk, hak⟩ := hrel
      have hk0 : (0 : Int) ≤ (k : Int) := by omega
      by_cases hki : k < i
      rotate_left
      · have hkI : ¬ (k : Int) < (i : Int) := by omega
        have HN : Hid (∀ a b, a < i + 1 → b < a → K.agr a b = true) := fun a b h1 h2 => by
          by_cases e : a = i
          · subst e; exact hak.out b (by omega)
          · exact hal.out a b (by omega) h2
        go_wp2
        go_roundw
        case rel => exact ⟨i + 1, by omega, by go_num, hbk.out, HN.out⟩
        case measure => simp [intOf]; omega
      have hkI : (k : Int) < (i : Int) := by omega
      have hk4I : (k : Int) < 4 := by omega
      obtain ⟨ai, ci, hci, hri⟩ := HS.out.wcells i hi4
      obtain ⟨ak, ck, hck, hrk⟩ := HS.out.wcells k (by omega)
      have HCE : Hid (∀ W, Below w.heap.size w W → W.cell? ⟨p, 5 + i * 4 + 3, none⟩ = some (.slice ai (K.was i).log.length ci) ∧ W.cell? ⟨p, 5 + k * 4 + 3, none⟩ = some (.slice ak (K.was k).log.length ck)) := fun W hW => ⟨(hW.cell (p := ⟨p, 5 + i * 4 + 3, none⟩) hpl).trans hci, (hW.cell (p := ⟨p, 5 + k * 4 + 3, none⟩) hpl).trans hck⟩
      have HP1 : Hid (∀ W, Below w.heap.size w W → Calls Tryd.prog 41 #[.slice ai (K.was i).log.length ci, .slice ak (K.was k).log.length ck] W fun e w' => e = .returned (.bool (isPrefix (K.was i).log (K.was k).log)) ∧ Below W.heap.size W w') := fun W hW => kprefix W _ _ _ _ _ _ (hri.below hW) (hrk.below hW) (HWL.out i)
      have HP2 : Hid (∀ W, Below w.heap.size w W → Calls Tryd.prog 41 #[.slice ak (K.was k).log.length ck, .slice ai (K.was i).log.length ci] W fun e w' => e = .returned (.bool (isPrefix (K.was k).log (K.was i).log)) ∧ Below W.heap.size W w') := fun W hW => kprefix W _ _ _ _ _ _ (hrk.below hW) (hri.below hW) (HWL.out k)
      have HAG : Hid (K.agr i k = (isPrefix (K.was i).log (K.was k).log || isPrefix (K.was k).log (K.was i).log)) := rfl
      clear hci hck hri hrk
      generalize isPrefix (K.was i).log (K.was k).log = q1 at HP1 HAG
      generalize isPrefix (K.was k).log (K.was i).log = q2 at HP2 HAG
      go_upto_region 7 with fail
      go_cut [5] (fun s w' => s = .bool q1 ∧ Hid (Below w.heap.size w w'))
      case first =>
        go_region_held3 (fun W => W.cell? ⟨p, 5 + i * 4 + 3, none⟩ = some (.slice ai (K.was i).log.length ci) ∧ W.cell? ⟨p, 5 + k * 4 + 3, none⟩ = some (.slice ak (K.was k).log.length ck))
          (first | (exact HCE.out _ (bnext hbk.out (Below.refl _ _).drew)) | (exact HCE.out _ hbk.out) | (exact HCE.out _ HB5.out))
          ((go_at_call 41; refine (HP1.out _ (bnext hbk.out (Below.refl _ _).drew)).mono ?_; rintro e w5 ⟨rfl, hb5⟩; have HB5 : Hid (Below w.heap.size w w5) := bnext (bnext hbk.out (Below.refl _ _).drew) hb5; clear hb5))
        all_goals (
          go_wp2
          go_meet
          case rel => exact ⟨rfl, HB5.out⟩)
      case rest =>
        obtain ⟨rfl, hbc⟩ := hcut
        clear hbk
        go_upto_region 8 with fail
        go_cut [6] (fun s w' => s = .bool q2 ∧ Hid (Below w.heap.size w w'))
        case first =>
          go_region_held3 (fun W => W.cell? ⟨p, 5 + i * 4 + 3, none⟩ = some (.slice ai (K.was i).log.length ci) ∧ W.cell? ⟨p, 5 + k * 4 + 3, none⟩ = some (.slice ak (K.was k).log.length ck))
            (first | (exact HCE.out _ (bnext hbc.out (Below.refl _ _).drew)) | (exact HCE.out _ hbc.out) | (exact HCE.out _ HB5.out))
            ((go_at_call 41; refine (HP2.out _ (bnext hbc.out (Below.refl _ _).drew)).mono ?_; rintro e w5 ⟨rfl, hb5⟩; have HB5 : Hid (Below w.heap.size w w5) := bnext (bnext hbc.out (Below.refl _ _).drew) hb5; clear hb5))
          all_goals (
            go_wp2
            go_meet
            case rel => exact ⟨rfl, HB5.out⟩)
        case rest =>
          obtain ⟨rfl, hbd⟩ := hcut
          clear hbc HP1 HP2
          cases hag : K.agr i k with
          | false =>
            have HX : Hid (K.agree = false) := agree_no hi4 hki hag
            have hq := HAG.out.symm.trans hag
            obtain ⟨rfl, rfl⟩ : q1 = false ∧ q2 = false := by simpa using hq
            clear hq hag
            go_wp2
            go_ret
            rw [HX.out]
            exact ⟨rfl, hbd.out⟩
          | true =>
            have HN : Hid (∀ b, b < k + 1 → K.agr i b = true) := fun b hb => by
              by_cases e : b = k
              · subst e; exact hag
              · exact hak.out b (by omega)
            have hq := HAG.out.symm.trans hag
            clear hag
            cases q1
            · obtain rfl : q2 = true := by simpa using hq
              clear hq
              go_wp2
              go_roundw
              case rel => exact ⟨k + 1, by omega, by go_num, hbd.out, HN.out⟩
              case measure => simp [intOf]; omega
            · clear hq
              go_wp2
              go_roundw
              case rel => exact ⟨k + 1, by omega, by go_num, hbd.out, HN.out⟩
              case measure => simp [intOf]; omega
end Go.Proofs.YtkehpnobidendaaDoor

namespace Go.Proofs.YtkehpnobidendaaDoor
open Go.RowKit

/-- What the promise rests on, without members or letters: votes (who, in which view, for which number), a block's view and its parent. -/
structure Sys where
  liar : Int
  V : Int → Int → Nat → Prop
  gv : Nat → Int
  gu : Nat → Nat
  met : Nat → Prop
/-- A block is this one, or among those ahead of it. -/
inductive Sys.Anc (S : Sys) : Nat → Nat → Prop
  | refl (a : Nat) : Sys.Anc S a a
  | step {a n : Nat} : S.met n → Sys.Anc S a (S.gu n) → Sys.Anc S a n
/-- Two that do not lie have voted for it. -/
structure Sys.Backed (S : Sys) (n : Nat) : Prop where
  ex : ∃ i j, (0 ≤ i ∧ i ≤ 3) ∧ (0 ≤ j ∧ j ≤ 3) ∧ i ≠ j ∧ i ≠ S.liar ∧ j ≠ S.liar ∧ S.V i (S.gv n) n ∧ S.V j (S.gv n) n
structure Sys.Safe (S : Sys) : Prop where
  lie : 0 ≤ S.liar ∧ S.liar ≤ 3
  m0 : ¬ S.met 0
  once : ∀ i v n n', i ≠ S.liar → S.V i v n → S.V i v n' → n = n'
  vw : ∀ i v n, i ≠ S.liar → S.V i v n → S.gv n = v ∧ S.met n
  jb : ∀ n, S.Backed n → (S.gu n = 0 ∨ S.Backed (S.gu n)) ∧ S.gv (S.gu n) < S.gv n
  v0 : S.gv 0 = 0
  u0 : S.gu 0 = 0
  vp : ∀ n, S.Backed n → 1 ≤ S.gv n
  safe : ∀ i v1 n1 v2 n2, i ≠ S.liar → S.V i v1 n1 → S.V i v2 n2 → v1 < v2 → ∃ q, (q = 0 ∨ S.Backed q) ∧ S.gv (S.gu (S.gu n1)) ≤ S.gv q ∧ S.Anc q (S.gu n2) ∧ S.gv q ≤ S.gv (S.gu n2)
/-- Three certified blocks in views right behind one another. -/
structure Sys.Done (S : Sys) (d : Nat) : Prop where
  ex : ∃ p b, S.gu b = p ∧ S.gu p = d ∧ d ≠ 0 ∧ S.gv b = S.gv p + 1 ∧ S.gv p = S.gv d + 1 ∧ S.Backed b
theorem Sys.Anc.trans {S : Sys} {a b c : Nat} (h : S.Anc a b) (g : S.Anc b c) : S.Anc a c := by
  induction g with
  | refl => exact h
  | step hn _ ih => exact .step hn ih
/-- Two quorums have a member in common that does not lie. -/
theorem Sys.meet {S : Sys} (hl : 0 ≤ S.liar ∧ S.liar ≤ 3) {n k : Nat} (h : S.Backed n) (g : S.Backed k) : ∃ i, i ≠ S.liar ∧ S.V i (S.gv n) n ∧ S.V i (S.gv k) k := by
  obtain ⟨i, j, hi, hj, hij, il, jl, vi, vj⟩ := h.ex
  obtain ⟨a, b, ha, hb, hab, al, bl, va, vb⟩ := g.ex
  by_cases h1 : i = a
  · subst h1; exact ⟨i, il, vi, va⟩
  · by_cases h2 : i = b
    · subst h2; exact ⟨i, il, vi, vb⟩
    · by_cases h3 : j = a
      · subst h3; exact ⟨j, jl, vj, va⟩
      · have h4 : j = b := by omega
        subst h4; exact ⟨j, jl, vj, vb⟩
theorem Sys.one {S : Sys} (hs : S.Safe) {n k : Nat} (h : S.Backed n) (g : S.Backed k) (he : S.gv n = S.gv k) : n = k := by
  obtain ⟨i, il, v1, v2⟩ := Sys.meet hs.lie h g
  rw [he] at v1
  exact hs.once i _ _ _ il v1 v2
theorem Sys.Backed.met {S : Sys} (hs : S.Safe) {n : Nat} (h : S.Backed n) : S.met n := by
  obtain ⟨i, _, _, _, _, il, _, vi, _⟩ := h.ex
  exact (hs.vw i _ _ il vi).2
theorem Sys.Backed.ne {S : Sys} (hs : S.Safe) {n : Nat} (h : S.Backed n) : n ≠ 0 := fun he => hs.m0 (by rw [← he]; exact h.met hs)
/-- Whatever is certified in a view not ahead of a committed block's lies behind that block. -/
theorem Sys.behind {S : Sys} (hs : S.Safe) {d : Nat} (hd : S.Done d) : ∀ (f : Nat) (n : Nat), (S.gv n).toNat ≤ f → S.Backed n → S.gv d ≤ S.gv n → S.Anc d n := by
  obtain ⟨p, b, rfl, hpd, hd0, hb, hp, hB⟩ := hd.ex
  have hp0 : S.gu b ≠ 0 := fun h => by
    rw [h, hs.u0] at hpd
    exact hd0 hpd.symm
  have hBp : S.Backed (S.gu b) := (hs.jb _ hB).1.resolve_left hp0
  have hBd : S.Backed d := by
    have := (hs.jb _ hBp).1
    rw [hpd] at this
    exact this.resolve_left hd0
  have hpA : S.Anc d (S.gu b) := .step (hBp.met hs) (by rw [hpd]; exact .refl _)
  have hbA : S.Anc d b := .step (hB.met hs) hpA
  intro f
  induction f with
  | zero =>
    intro n hf hn hv
    have h2 := hs.vp n hn
    omega
  | succ f ih =>
    intro n hf hn hv
    by_cases h1 : S.gv n = S.gv b
    · rw [Sys.one hs hn hB h1]; exact hbA
    by_cases h2 : S.gv n = S.gv (S.gu b)
    · rw [Sys.one hs hn hBp h2]; exact hpA
    by_cases h3 : S.gv n = S.gv d
    · rw [Sys.one hs hn hBd h3]; exact .refl _
    obtain ⟨i, il, v1, v2⟩ := Sys.meet hs.lie hB hn
    obtain ⟨q, q1, q2, q3, q4⟩ := hs.safe i _ _ _ _ il v1 v2 (by omega)
    rw [hpd] at q2
    have h4 := (hs.jb _ hn).2
    have hd1 : 1 ≤ S.gv d := hs.vp d hBd
    have hq : S.Backed q := q1.resolve_left fun h => by
      rw [h, hs.v0] at q2
      omega
    exact .step (hn.met hs) ((ih q (by omega) hq q2).trans q3)
/-! The cluster as such a system. -/
def Clu.gv (K : Clu) (n : Nat) : Int := if n = 0 then 0 else match firstOf n K.blocks with
  | some o => o.view
  | none => 0
def Clu.gu (K : Clu) (n : Nat) : Nat := if n = 0 then 0 else match firstOf n K.blocks with
  | some o => o.just.block
  | none => 0
def Clu.Vd (K : Clu) (i v : Int) (n : Nat) : Prop := ∃ t ∈ K.voted, t.fro = i ∧ t.view = v ∧ t.n = n
def Clu.met (K : Clu) (n : Nat) : Prop := n ≠ 0 ∧ ∃ o, firstOf n K.blocks = some o
def Clu.sys (K : Clu) : Sys := ⟨K.liar, K.Vd, K.gv, K.gu, K.met⟩
/-- A block that was met, under its number. -/
structure MetB (K : Clu) (n : Nat) (b : Blk) : Prop where
  n0 : n ≠ 0
  ex : ∃ o, firstOf n K.blocks = some o ∧ o.view = b.view ∧ o.just.block = b.just.block ∧ o.cmd.toList = b.cmd.toList
/-- A certificate: the first one, or two that do not lie have voted. -/
def BackC (K : Clu) (v : Int) (n : Nat) : Prop := (n = 0 ∧ v = 0) ∨ (n ≠ 0 ∧ ∃ i j, (0 ≤ i ∧ i ≤ 3) ∧ (0 ≤ j ∧ j ≤ 3) ∧ i ≠ j ∧ i ≠ K.liar ∧ j ≠ K.liar ∧ K.Vd i v n ∧ K.Vd j v n)
/-- What is known of each vote. -/
structure VoteG (K : Clu) (t : Vt) : Prop where
  f0 : 0 ≤ t.fro
  f3 : t.fro ≤ 3
  fl : t.fro ≠ K.liar
  mt : K.met t.n
  vw : K.gv t.n = t.view
  v1 : 1 ≤ t.view
  lt : K.gv (K.gu t.n) < t.view
  bk : BackC K (K.gv (K.gu t.n)) (K.gu t.n)
def VG (K : Clu) : Prop := ∀ t ∈ K.voted, VoteG K t
structure KExt (K K' : Clu) : Prop where
  li : K'.liar = K.liar
  vt : ∀ t ∈ K.voted, t ∈ K'.voted
  bl : ∀ n o, firstOf n K.blocks = some o → firstOf n K'.blocks = some o
theorem KExt.refl (K : Clu) : KExt K K := ⟨rfl, fun _ h => h, fun _ _ h => h⟩
theorem KExt.trans {a b c : Clu} (h : KExt a b) (g : KExt b c) : KExt a c := ⟨g.li.trans h.li, fun t ht => g.vt t (h.vt t ht), fun n o ho => g.bl n o (h.bl n o ho)⟩
theorem gv_zero (K : Clu) : K.gv 0 = 0 := if_pos rfl
theorem gu_zero (K : Clu) : K.gu 0 = 0 := if_pos rfl
theorem gv_of {K : Clu} {n : Nat} {o : Blk} (h0 : n ≠ 0) (h : firstOf n K.blocks = some o) : K.gv n = o.view := by unfold Clu.gv; rw [if_neg h0, h]
theorem gu_of {K : Clu} {n : Nat} {o : Blk} (h0 : n ≠ 0) (h : firstOf n K.blocks = some o) : K.gu n = o.just.block := by unfold Clu.gu; rw [if_neg h0, h]
theorem MetB.met {K : Clu} {n : Nat} {b : Blk} (h : MetB K n b) : K.met n := by
  obtain ⟨o, h1, _⟩ := h.ex
  exact ⟨h.n0, o, h1⟩
theorem MetB.gv {K : Clu} {n : Nat} {b : Blk} (h : MetB K n b) : K.gv n = b.view := by
  obtain ⟨o, h1, h2, _⟩ := h.ex
  rw [gv_of h.n0 h1, h2]
theorem MetB.gu {K : Clu} {n : Nat} {b : Blk} (h : MetB K n b) : K.gu n = b.just.block := by
  obtain ⟨o, h1, _, h2, _⟩ := h.ex
  rw [gu_of h.n0 h1, h2]
theorem BackC.vd {K : Clu} {v : Int} {n : Nat} (h : BackC K v n) (hn : n ≠ 0) : ∃ t ∈ K.voted, t.view = v ∧ t.n = n := by
  rcases h with ⟨h, _⟩ | ⟨_, i, j, _, _, _, _, _, ⟨t, h1, _, h2, h3⟩, _⟩
  · exact absurd h hn
  · exact ⟨t, h1, h2, h3⟩
/-- What is certified: its view, that it was met; its parent. -/
theorem BackC.met {K : Clu} (hv : VG K) {v : Int} {n : Nat} (h : BackC K v n) (hn : n ≠ 0) : K.met n ∧ K.gv n = v ∧ K.gv (K.gu n) < v ∧ BackC K (K.gv (K.gu n)) (K.gu n) := by
  obtain ⟨t, h1, rfl, rfl⟩ := h.vd hn
  have := hv t h1
  exact ⟨this.mt, this.vw, this.lt, this.bk⟩
theorem BackC.gv {K : Clu} (hv : VG K) {v : Int} {n : Nat} (h : BackC K v n) : K.gv n = v := by
  by_cases hn : n = 0
  · rcases h with ⟨_, h⟩ | ⟨h, _⟩
    · rw [hn, h]; exact gv_zero K
    · exact absurd hn h
  · exact (h.met hv hn).2.1
theorem BackC.backed {K : Clu} (hv : VG K) {v : Int} {n : Nat} (h : BackC K v n) : n = 0 ∨ K.sys.Backed n := by
  by_cases hn : n = 0
  · exact .inl hn
  · have h1 := (h.met hv hn).2.1
    rcases h with ⟨h, _⟩ | ⟨_, i, j, a, b, c, d, e, f, g⟩
    · exact absurd h hn
    · exact .inr ⟨i, j, a, b, c, d, e, by show K.Vd i (K.gv n) n; rw [h1]; exact f, by show K.Vd j (K.gv n) n; rw [h1]; exact g⟩
theorem BackC.up {K : Clu} (hv : VG K) {v : Int} {n : Nat} (h : BackC K v n) : BackC K (K.gv (K.gu n)) (K.gu n) := by
  by_cases hn : n = 0
  · left; rw [hn, gu_zero]; exact ⟨rfl, gv_zero K⟩
  · exact (h.met hv hn).2.2.2
theorem back_of {K : Clu} {n : Nat} (hv : VG K) (h : K.sys.Backed n) : BackC K (K.gv n) n := by
  obtain ⟨i, j, a, b, c, d, e, f, g⟩ := h.ex
  have hn : n ≠ 0 := by
    obtain ⟨t, h1, _, _, h2⟩ := f
    rw [← h2]; exact (hv t h1).mt.1
  exact .inr ⟨hn, i, j, a, b, c, d, e, f, g⟩
/-! It grows. -/
theorem KExt.met {K K' : Clu} (h : KExt K K') {n : Nat} (hn : K.met n) : K'.met n := ⟨hn.1, hn.2.choose, h.bl _ _ hn.2.choose_spec⟩
theorem KExt.gv {K K' : Clu} (h : KExt K K') {n : Nat} (hn : n = 0 ∨ K.met n) : K'.gv n = K.gv n := by
  rcases hn with rfl | ⟨h0, o, ho⟩
  · rw [gv_zero, gv_zero]
  · rw [gv_of h0 ho, gv_of h0 (h.bl _ _ ho)]
theorem KExt.gu {K K' : Clu} (h : KExt K K') {n : Nat} (hn : n = 0 ∨ K.met n) : K'.gu n = K.gu n := by
  rcases hn with rfl | ⟨h0, o, ho⟩
  · rw [gu_zero, gu_zero]
  · rw [gu_of h0 ho, gu_of h0 (h.bl _ _ ho)]
theorem KExt.vd {K K' : Clu} (h : KExt K K') {i v : Int} {n : Nat} (hn : K.Vd i v n) : K'.Vd i v n := by
  obtain ⟨t, h1, h2⟩ := hn
  exact ⟨t, h.vt t h1, h2⟩
theorem KExt.back {K K' : Clu} (h : KExt K K') {v : Int} {n : Nat} (hn : BackC K v n) : BackC K' v n := by
  rcases hn with hn | ⟨h0, i, j, a, b, c, d, e, f, g⟩
  · exact .inl hn
  · exact .inr ⟨h0, i, j, a, b, c, by rw [h.li]; exact d, by rw [h.li]; exact e, h.vd f, h.vd g⟩
theorem KExt.at {K K' : Clu} (h : KExt K K') {n : Nat} {b : Blk} (hn : MetB K n b) : MetB K' n b := by
  obtain ⟨o, h1, h2⟩ := hn.ex
  exact ⟨hn.n0, o, h.bl _ _ h1, h2⟩
theorem BackC.zm {K : Clu} (hv : VG K) {v : Int} {n : Nat} (h : BackC K v n) : n = 0 ∨ K.met n := by
  by_cases hn : n = 0
  · exact .inl hn
  · exact .inr (h.met hv hn).1
theorem KExt.voteG {K K' : Clu} (h : KExt K K') {t : Vt} (hv : VG K) (ht : VoteG K t) : VoteG K' t := by
  have e1 := h.gu (.inr ht.mt)
  have e2 := h.gv (ht.bk.zm hv)
  exact ⟨ht.f0, ht.f3, by rw [h.li]; exact ht.fl, h.met ht.mt, by rw [h.gv (.inr ht.mt)]; exact ht.vw, ht.v1, by rw [e1, e2]; exact ht.lt, by rw [e1, e2]; exact h.back ht.bk⟩
theorem KExt.anc {K K' : Clu} (h : KExt K K') {a n : Nat} (hn : K.sys.Anc a n) : K'.sys.Anc a n := by
  induction hn with
  | refl => exact .refl _
  | step hm _ ih => exact .step (h.met hm) (by show K'.sys.Anc _ (K'.gu _); rw [h.gu (.inr hm)]; exact ih)
theorem KExt.backed {K K' : Clu} (h : KExt K K') (hv : VG K) {n : Nat} (hn : K.sys.Backed n) : K'.sys.Backed n := by
  have h1 := back_of hv hn
  obtain ⟨i, j, a, b, c, d, e, f, g⟩ := hn.ex
  have e1 : K'.gv n = K.gv n := h.gv (h1.zm hv)
  exact ⟨i, j, a, b, c, by show i ≠ K'.liar; rw [h.li]; exact d, by show j ≠ K'.liar; rw [h.li]; exact e, by show K'.Vd i (K'.gv n) n; rw [e1]; exact h.vd f, by show K'.Vd j (K'.gv n) n; rw [e1]; exact h.vd g⟩
theorem KExt.done {K K' : Clu} (h : KExt K K') (hv : VG K) {d : Nat} (hd : K.sys.Done d) : K'.sys.Done d := by
  obtain ⟨p, b, hp, hd1, hd0, h1, h2, hB⟩ := hd.ex
  have b1 := back_of hv hB
  have b2 := b1.up hv
  have b3 := b2.up hv
  change K.gu b = p at hp
  subst hp
  change K.gu (K.gu b) = d at hd1
  rw [hd1] at b3
  change K.gv b = K.gv (K.gu b) + 1 at h1
  change K.gv (K.gu b) = K.gv d + 1 at h2
  have e1 := h.gu (b1.zm hv)
  have e2 := h.gu (b2.zm hv)
  have e3 := h.gv (b1.zm hv)
  have e4 := h.gv (b2.zm hv)
  have e5 := h.gv (b3.zm hv)
  exact ⟨K'.gu b, b, rfl, by show K'.gu (K'.gu b) = d; rw [e1, e2, hd1], hd0, by show K'.gv b = K'.gv (K'.gu b) + 1; rw [e1, e3, e4]; exact h1, by show K'.gv (K'.gu b) = K'.gv d + 1; rw [e1, e4, e5]; exact h2, h.backed hv hB⟩

/-! What holds of a cluster, and of a member. -/
def OnceK (K : Clu) : Prop := ∀ t ∈ K.voted, ∀ u ∈ K.voted, t.fro = u.fro → t.view = u.view → t.n = u.n
structure SafeAt (K : Clu) (n1 n2 : Nat) : Prop where
  ex : ∃ q v, BackC K v q ∧ K.gv (K.gu (K.gu n1)) ≤ v ∧ K.sys.Anc q (K.gu n2) ∧ v ≤ K.gv (K.gu n2)
def SafeK (K : Clu) : Prop := ∀ t ∈ K.voted, ∀ u ∈ K.voted, t.fro = u.fro → t.view < u.view → SafeAt K t.n u.n
/-- What is known of a message that is about. -/
structure MsgB (K : Clu) (x : Msg) : Prop where
  p : x.kind = 1 → MetB K x.block.num x.block ∧ BackC K x.block.just.view x.block.just.block
  v : x.kind = 2 → x.fro ≠ K.liar → K.Vd x.fro x.view x.number
  e : x.kind = 3 → BackC K x.cert.view x.cert.block
structure CInv (K : Clu) : Prop where
  lie : 0 ≤ K.liar ∧ K.liar ≤ 3
  vg : VG K
  one : OnceK K
  safe : SafeK K
  crt : ∀ c ∈ K.certs, BackC K c.view c.block
  ltr : ∀ l ∈ K.letters, MsgB K l.msg
theorem KExt.safeAt {K K' : Clu} (h : KExt K K') (hv : VG K) {t u : Vt} (ht : VoteG K t) (hu : VoteG K u) (hs : SafeAt K t.n u.n) : SafeAt K' t.n u.n := by
  obtain ⟨q, v, h1, h2, h3, h4⟩ := hs.ex
  have e1 := h.gu (.inr ht.mt)
  have e2 := h.gu (ht.bk.zm hv)
  have e3 := h.gv ((ht.bk.up hv).zm hv)
  have e4 := h.gu (.inr hu.mt)
  have e5 := h.gv (hu.bk.zm hv)
  exact ⟨q, v, h.back h1, by rw [e1, e2, e3]; exact h2, by rw [e4]; exact h.anc h3, by rw [e4, e5]; exact h4⟩
theorem KExt.msgB {K K' : Clu} (h : KExt K K') {x : Msg} (hx : MsgB K x) : MsgB K' x :=
  ⟨fun hk => ⟨h.at (hx.p hk).1, h.back (hx.p hk).2⟩, fun hk hl => h.vd (hx.v hk (by rw [← h.li]; exact hl)), fun hk => h.back (hx.e hk)⟩
theorem CInv.safe' {K : Clu} (h : CInv K) : K.sys.Safe := by
  refine ⟨h.lie, fun hm => hm.1 rfl, ?_, ?_, ?_, gv_zero K, gu_zero K, ?_, ?_⟩
  · rintro i v n n' _ ⟨t, h1, h2, h3, h4⟩ ⟨u, g1, g2, g3, g4⟩
    have := h.one t h1 u g1 (by rw [h2, g2]) (by rw [h3, g3])
    rw [← h4, ← g4]; exact this
  · rintro i v n _ ⟨t, h1, h2, h3, h4⟩
    have := h.vg t h1
    rw [h3.symm, h4.symm]
    exact ⟨this.vw, this.mt⟩
  · intro n hn
    have h1 := back_of h.vg hn
    have hn0 : n ≠ 0 := by
      rcases h1 with ⟨h0, _⟩ | ⟨h0, _⟩
      · obtain ⟨i, j, _, _, _, _, _, ⟨t, g1, _, _, g2⟩, _⟩ := hn.ex
        rw [← g2]; exact (h.vg t g1).mt.1
      · exact h0
    have h2 := h1.met h.vg hn0
    exact ⟨h2.2.2.2.backed h.vg, h2.2.2.1⟩
  · intro n hn
    obtain ⟨i, j, _, _, _, _, _, ⟨t, g1, _, g3, g2⟩, _⟩ := hn.ex
    have := (h.vg t g1).v1
    rw [g3] at this
    exact this
  · rintro i v1 n1 v2 n2 _ ⟨t, h1, h2, h3, h4⟩ ⟨u, g1, g2, g3, g4⟩ hlt
    obtain ⟨q, v, a, b, c, d⟩ := (h.safe t h1 u g1 (by rw [h2, g2]) (by rw [h3, g3]; exact hlt)).ex
    rw [h4] at b
    rw [g4] at c d
    have e := a.gv h.vg
    exact ⟨q, a.backed h.vg, by show K.gv (K.gu (K.gu n1)) ≤ K.gv q; rw [e]; exact b, c, by show K.gv q ≤ K.gv (K.gu n2); rw [e]; exact d⟩
end Go.Proofs.YtkehpnobidendaaDoor

namespace Go.Proofs.YtkehpnobidendaaDoor
open Go.RowKit

structure MInv0 (K : Clu) (m : Mem) : Prop where
  at1 : ∀ n b, m.block n = some b → n ≠ 0 → MetB K n b
  js : ∀ n b, m.block n = some b → BackC K b.just.view b.just.block
  hi : BackC K m.high.view m.high.block
  lk : BackC K m.locked.view m.locked.block
  lh : m.locked.view ≤ m.high.view
  vt : ∀ t ∈ m.votes, t.fro ≠ K.liar → K.Vd t.fro t.view t.n
  lg : m.log ≠ [] → K.sys.Done (m.log.getLastD 0)
/-- Nothing that a member has goes back. -/
structure Rises (m m' : Mem) : Prop where
  id : m'.id = m.id
  bl : ∀ n b, m.block n = some b → m'.block n = some b
  vo : m.voted ≤ m'.voted
  vw : m.view ≤ m'.view
  hi : m.high.view ≤ m'.high.view
  lk : m.locked.view ≤ m'.locked.view
  lg : ∃ r, m'.log = m.log ++ r
theorem Rises.refl (m : Mem) : Rises m m := ⟨rfl, fun _ _ h => h, Int.le_refl _, Int.le_refl _, Int.le_refl _, Int.le_refl _, [], (List.append_nil _).symm⟩
theorem Rises.trans {a b c : Mem} (h : Rises a b) (g : Rises b c) : Rises a c := by
  obtain ⟨r, hr⟩ := h.lg
  obtain ⟨s, hs⟩ := g.lg
  exact ⟨g.id.trans h.id, fun n x hx => g.bl n x (h.bl n x hx), Int.le_trans h.vo g.vo, Int.le_trans h.vw g.vw, Int.le_trans h.hi g.hi, Int.le_trans h.lk g.lk, r ++ s, by rw [hs, hr, List.append_assoc]⟩
theorem KExt.minv {K K' : Clu} (h : KExt K K') (hv : VG K) {m : Mem} (hm : MInv0 K m) : MInv0 K' m :=
  ⟨fun n b hb h0 => h.at (hm.at1 n b hb h0), fun n b hb => h.back (hm.js n b hb), h.back hm.hi, h.back hm.lk, hm.lh, fun t ht hl => h.vd (hm.vt t ht (by rw [← h.li]; exact hl)), fun hl => h.done hv (hm.lg hl)⟩
theorem MInv0.same {K : Clu} {m m' : Mem} (h : MInv0 K m) (hb : m'.blocks = m.blocks) (h1 : m'.high = m.high) (h2 : m'.locked = m.locked) (h3 : m'.votes = m.votes) (h4 : m'.log = m.log) : MInv0 K m' := by
  have hbl : ∀ n, m'.block n = m.block n := fun n => by unfold Mem.block; rw [hb]
  exact ⟨fun n b => by rw [hbl]; exact h.at1 n b, fun n b => by rw [hbl]; exact h.js n b, by rw [h1]; exact h.hi, by rw [h2]; exact h.lk, by rw [h1, h2]; exact h.lh, by rw [h3]; exact h.vt, by rw [h4]; exact h.lg⟩
theorem MInv0.gv {K : Clu} {m : Mem} (h : MInv0 K m) (hi : Inv m) {n : Nat} {b : Blk} (hb : m.block n = some b) : K.gv n = b.view ∧ K.gu n = b.just.block := by
  by_cases hn : n = 0
  · subst hn
    rw [zero_known hi.ch] at hb
    obtain rfl := Option.some.inj hb
    exact ⟨gv_zero K, gu_zero K⟩
  · exact ⟨(h.at1 n b hb hn).gv, (h.at1 n b hb hn).gu⟩
theorem minv_knows {K : Clu} {m : Mem} (h : MInv0 K m) {b : Blk} (hb : MetB K b.num b) (hj : BackC K b.just.view b.just.block) : MInv0 K (m.knows b) := by
  by_cases hs : (m.block b.num).isSome = true
  · rw [Mem.knows, if_pos hs]; exact h
  · have hbl : ∀ n x, (m.knows b).block n = some x → m.block n = some x ∨ (n = b.num ∧ x = b) := fun n x hx => by
      rw [Mem.knows, if_neg hs] at hx
      change find n (m.blocks ++ [(b.num, b)]) = some x at hx
      rw [find_append] at hx
      cases hf : find n m.blocks with
      | some y => rw [hf] at hx; left; show find n m.blocks = some x; rw [hf]; exact hx
      | none =>
        rw [hf] at hx
        right
        simp only [find, Option.none_or] at hx
        split at hx
        · rename_i he
          exact ⟨he.symm, (Option.some.inj hx).symm⟩
        · cases hx
    have e : (m.knows b).high = m.high ∧ (m.knows b).locked = m.locked ∧ (m.knows b).votes = m.votes ∧ (m.knows b).log = m.log := by rw [Mem.knows, if_neg hs]; exact ⟨rfl, rfl, rfl, rfl⟩
    refine ⟨fun n x hx h0 => ?_, fun n x hx => ?_, by rw [e.1]; exact h.hi, by rw [e.2.1]; exact h.lk, by rw [e.1, e.2.1]; exact h.lh, by rw [e.2.2.1]; exact h.vt, by rw [e.2.2.2]; exact h.lg⟩
    · rcases hbl n x hx with h1 | ⟨rfl, rfl⟩
      · exact h.at1 n x h1 h0
      · exact hb
    · rcases hbl n x hx with h1 | ⟨rfl, rfl⟩
      · exact h.js n x h1
      · exact hj
theorem rises_knows (m : Mem) (b : Blk) : Rises m (m.knows b) := by
  refine ⟨?_, fun n x hx => knows_keeps hx, ?_, ?_, ?_, ?_, [], ?_⟩ <;> (unfold Mem.knows; split) <;> simp
theorem above_anc {K : Clu} {m : Mem} (h : MInv0 K m) (hi : Inv m) (old : Nat) : ∀ (f n : Nat), (m.block n).isSome = true → m.above old f n = true → K.sys.Anc old n
  | 0, _, _, h0 => by cases h0
  | f + 1, n, hn, h0 => by
    unfold Mem.above at h0
    split at h0
    · rename_i he; rw [he]; exact .refl _
    · split at h0
      · cases h0
      · rename_i hn0
        obtain ⟨b, hb⟩ := Option.isSome_iff_exists.1 hn
        have h1 := up_known hi.ch hb hn0
        have h2 := above_anc h hi old f _ h1.1 h0
        have e : m.up n = K.gu n := by rw [(h.gv hi hb).2]; unfold Mem.up; rw [hb]; rfl
        rw [e] at h2
        exact .step (h.at1 n b hb hn0).met h2
theorem last_append (l : List Nat) (a : Nat) (f n : Nat) (m : Mem) : (l ++ (m.more (f + 1) n).reverse).getLastD a = n := by
  unfold Mem.more
  rw [List.reverse_cons, ← List.append_assoc]
  simp
theorem minv_commit {K : Clu} (hv : VG K) {m : Mem} (h : MInv0 K m) (hi : Inv m) {n : Nat} {b : Blk} (hb : m.block n = some b) (hB : BackC K b.view n) (hn : n ≠ 0) : MInv0 K (m.commit b) := by
  rw [commit_is m b _ _ rfl rfl]
  obtain ⟨p, hp, hp1⟩ := (just_held hi.ch hb).known
  have hpe : (m.block b.just.block).getD Blk.zero = p := by rw [hp]; rfl
  rw [hpe]
  obtain ⟨o, ho, ho1⟩ := (just_held hi.ch hp).known
  have hoe : (m.block p.just.block).getD Blk.zero = o := by rw [ho]; rfl
  rw [hoe]
  split
  · exact h
  · rename_i hs
    split
    · exact h
    · have hs2 : m.logged p.just.block = false ∧ b.view = p.view + 1 ∧ p.view = o.view + 1 := by
        rw [Bool.not_eq_true] at hs
        unfold Mem.shuns at hs
        simp only [Bool.or_eq_false_iff, bne_eq_false_iff_eq] at hs
        exact ⟨hs.1.1, hs.1.2, hs.2⟩
      refine ⟨h.at1, h.js, h.hi, h.lk, h.lh, h.vt, fun _ => ?_⟩
      show K.sys.Done ((m.log ++ (m.more (m.blocks.length + 1) p.just.block).reverse).getLastD 0)
      rw [last_append m.log 0]
      have g1 := h.gv hi hb
      have g2 := h.gv hi hp
      have g3 := h.gv hi ho
      have hd0 := (logged_ne hs2.1).1
      refine ⟨b.just.block, n, g1.2, g2.2, hd0, ?_, ?_, (hB.backed hv).resolve_left hn⟩
      · show K.gv n = K.gv b.just.block + 1
        rw [g1.1, g2.1]; exact hs2.2.1
      · show K.gv b.just.block = K.gv p.just.block + 1
        rw [g2.1, g3.1]; exact hs2.2.2
theorem rises_commit (m : Mem) (b : Blk) : Rises m (m.commit b) := by
  have hk := commit_keeps m b
  have hb : ∀ n, (m.commit b).block n = m.block n := fun n => by unfold Mem.block; rw [hk.b]
  refine ⟨hk.i, fun n x hx => by rw [hb]; exact hx, by rw [hk.t]; exact Int.le_refl _, by rw [hk.v]; exact Int.le_refl _, ?_, ?_, ?_⟩
  all_goals (rw [commit_is m b _ _ rfl rfl]; split)
  all_goals first | exact Int.le_refl _ | exact ⟨[], (List.append_nil _).symm⟩ | (split <;> first | exact Int.le_refl _ | exact ⟨[], (List.append_nil _).symm⟩ | exact ⟨_, rfl⟩)
theorem minv_high {K : Clu} {m : Mem} (h : MInv0 K m) {c : Crt} (hc : BackC K c.view c.block) : MInv0 K (m.high1 c) := by
  unfold Mem.high1
  split
  · rename_i hlt
    exact ⟨h.at1, h.js, hc, h.lk, by show m.locked.view ≤ c.view; have := h.lh; omega, h.vt, h.lg⟩
  · exact h
theorem high_ge (m : Mem) (c : Crt) : c.view ≤ (m.high1 c).high.view ∧ m.high.view ≤ (m.high1 c).high.view := by
  unfold Mem.high1
  split
  · exact ⟨Int.le_refl _, by show _ ≤ c.view; omega⟩
  · exact ⟨by omega, Int.le_refl _⟩
theorem rises_high (m : Mem) (c : Crt) : Rises m (m.high1 c) := by
  have h := (high_ge m c).2
  have hk := high1_keeps m c
  refine ⟨hk.i, fun n x hx => by rw [high1_block]; exact hx, by rw [hk.t]; exact Int.le_refl _, by rw [hk.v]; exact Int.le_refl _, h, ?_, [], ?_⟩ <;> (unfold Mem.high1; split) <;> simp
theorem minv_lock {K : Clu} {m : Mem} (h : MInv0 K m) {b : Blk} (hb : BackC K b.just.view b.just.block) (hh : b.just.view ≤ m.high.view) : MInv0 K (m.lock1 b) := by
  unfold Mem.lock1
  split
  · exact ⟨h.at1, h.js, h.hi, hb, hh, h.vt, h.lg⟩
  · exact h
theorem lock_ge (m : Mem) (b : Blk) : b.just.view ≤ (m.lock1 b).locked.view ∧ m.locked.view ≤ (m.lock1 b).locked.view := by
  unfold Mem.lock1
  split
  · exact ⟨Int.le_refl _, by show _ ≤ b.just.view; omega⟩
  · exact ⟨by omega, Int.le_refl _⟩
theorem rises_lock (m : Mem) (b : Blk) : Rises m (m.lock1 b) := by
  have h := (lock_ge m b).2
  have hk := lock1_keeps m b
  refine ⟨hk.i, fun n x hx => by rw [lock1_block]; exact hx, by rw [hk.t]; exact Int.le_refl _, by rw [hk.v]; exact Int.le_refl _, ?_, h, [], ?_⟩ <;> (unfold Mem.lock1; split) <;> simp
/-- To learn of a certificate that two have voted for: all goes on, nothing goes back; the lock is the parent's Just, or a later one. -/
theorem minv_learn {K : Clu} (hv : VG K) {m : Mem} (h : MInv0 K m) (hi : Inv m) {c : Crt} (hc : Held m c) (hB : BackC K c.view c.block) :
    MInv0 K (m.learn c) ∧ Rises m (m.learn c) ∧ K.gv (K.gu c.block) ≤ (m.learn c).locked.view := by
  obtain ⟨b, hb, hbv⟩ := hc.known
  have h1 := minv_high h hB
  have i1 : Inv (m.high1 c) := by
    have hk := high1_keeps m c
    refine hi.same hk.b (by unfold Mem.high1; split <;> rfl) hk.i hk.p ⟨by rw [hk.v]; exact hi.v0, by rw [hk.v]; exact hi.v1⟩ ⟨by rw [hk.t]; exact hi.t0, by rw [hk.t]; exact hi.t1⟩ (by rw [hk.w]; exact hi.w0) ?_ ?_ (by rw [hk.q]; exact hi.qc) (by rw [hk.q]; exact hi.ql) (by rw [hk.vs]; exact hi.vt)
    · unfold Mem.high1; split
      · exact hc
      · exact hi.hi
    · unfold Mem.high1; split <;> exact hi.lk
  rw [learn_is]
  by_cases h0 : c.block = 0
  · rw [if_pos h0]
    refine ⟨h1, rises_high m c, ?_⟩
    rw [h0, gu_zero, gv_zero]
    exact i1.lk.v0
  · rw [if_neg h0]
    have hb1 : (m.high1 c).block c.block = some b := by rw [high1_block]; exact hb
    have hbe : ((m.high1 c).block c.block).getD Blk.zero = b := by rw [hb1]; rfl
    dsimp only
    rw [hbe]
    have hjb : BackC K b.just.view b.just.block := h.js _ _ hb
    have g := h.gv hi hb
    have hup : K.gv (K.gu c.block) = b.just.view := by rw [g.2]; exact hjb.gv hv
    have hlt : b.just.view < c.view := by
      have := (hB.met hv h0).2.2.1
      rw [hup] at this
      exact this
    have hge := (high_ge m c).1
    have h2 := minv_lock h1 hjb (by omega)
    have r2 := (rises_high m c).trans (rises_lock (m.high1 c) b)
    have l2 := (lock_ge (m.high1 c) b).1
    split
    · exact ⟨h2, r2, by rw [hup]; exact l2⟩
    · have i2 : Inv ((m.high1 c).lock1 b) := by
        have hk := lock1_keeps (m.high1 c) b
        refine i1.same hk.b (lock1_blocks _ _).2 hk.i hk.p ⟨by rw [hk.v]; exact i1.v0, by rw [hk.v]; exact i1.v1⟩ ⟨by rw [hk.t]; exact i1.t0, by rw [hk.t]; exact i1.t1⟩ (by rw [hk.w]; exact i1.w0) ?_ ?_ (by rw [hk.q]; exact i1.qc) (by rw [hk.q]; exact i1.ql) (by rw [hk.vs]; exact i1.vt)
        · unfold Mem.lock1; split <;> exact i1.hi
        · unfold Mem.lock1; split
          · exact just_held i1.ch hb1
          · exact i1.lk
      have hb2 : ((m.high1 c).lock1 b).block c.block = some b := by rw [lock1_block]; exact hb1
      have r3 := rises_commit ((m.high1 c).lock1 b) b
      exact ⟨minv_commit hv h2 i2 hb2 (by rw [hbv]; exact hB) h0, r2.trans r3, by rw [hup]; have := r3.lk; omega⟩
theorem anc_le {K : Clu} (hv : VG K) {a n : Nat} (h : K.sys.Anc a n) : ∀ {v : Int}, BackC K v n → K.gv a ≤ v := by
  induction h with
  | refl => intro v hb; rw [hb.gv hv]; exact Int.le_refl _
  | step hm _ ih =>
    intro v hb
    have h1 := hb.met hv hm.1
    have h2 := ih h1.2.2.2
    have h3 := h1.2.2.1
    omega
/-- What a vote that is sent is. -/
structure NewVote (K : Clu) (m m' : Mem) (v : Int) (n : Nat) : Prop where
  v1 : 1 ≤ v
  fresh : m.voted < v
  vo : v ≤ m'.voted
  mt : K.met n
  vw : K.gv n = v
  lt : K.gv (K.gu n) < v
  bk : BackC K (K.gv (K.gu n)) (K.gu n)
  lk : K.gv (K.gu (K.gu n)) ≤ m'.locked.view
  sf : ∀ w, w ≤ m.locked.view → ∃ q v', BackC K v' q ∧ w ≤ v' ∧ K.sys.Anc q (K.gu n) ∧ v' ≤ K.gv (K.gu n)
def voteLtr (m : Mem) (x : Msg) : Ltr := ⟨(x.view + 1) % 4, { Msg.zero with kind := 2, fro := m.id, view := x.view, number := x.block.num, sl := sealOf m.id 2 x.view x.block.num }⟩
structure Takn (K : Clu) (m : Mem) (r : Mem × List Ltr × Int) (x : Msg) : Prop where
  inv : MInv0 K r.1
  rise : Rises m r.1
  out : r.2.1 = [] ∨ (r.2.1 = [voteLtr m x] ∧ NewVote K m r.1 x.view x.block.num)
theorem took_no {K : Clu} {m : Mem} (h : MInv0 K m) (x : Msg) (e : Int) : Takn K m (m, [], e) x := ⟨h, Rises.refl m, .inl rfl⟩
theorem took_proposal {K : Clu} (hv : VG K) {m : Mem} (h : MInv0 K m) (hi : Inv m) (x : Msg) (hx : x.block.Ok) (hat : MetB K x.block.num x.block) (hj : BackC K x.block.just.view x.block.just.block) : Takn K m (m.proposal x) x := by
  unfold Mem.proposal
  dsimp only
  split
  · exact took_no h x _
  · rename_i hf
    split
    · exact took_no h x _
    · cases hp : m.block x.block.just.block with
      | none => exact took_no h x _
      | some p =>
        dsimp only
        split
        · exact took_no h x _
        · rename_i hpv
          split
          · exact took_no h x _
          · rename_i hold
            have hf1 : 1 ≤ x.view ∧ x.view ≤ 1000 ∧ x.block.view = x.view ∧ x.block.cmd.size ≤ 16 ∧ 0 ≤ x.block.just.view ∧ x.block.just.view < x.view := by omega
            have hpv1 : p.view = x.block.just.view := Classical.byContradiction hpv
            have ho1 : m.view ≤ x.view ∧ m.voted < x.view := by omega
            have hH : Held m x.block.just := ⟨hf1.2.2.2.2.1, hx.j, p, hp, hpv1⟩
            have i0 : Inv (m.knows x.block) := inv_knows hi x.block hH ⟨by omega, by omega, hx, hf1.2.2.2.1⟩
            have h0 := minv_knows h hat hj
            have r0 := rises_knows m x.block
            have hH0 : Held (m.knows x.block) x.block.just := hH.of_blocks r0.bl
            obtain ⟨h1, r1, l1⟩ := minv_learn hv h0 i0 hH0 hj
            have i1 := inv_learn i0 _ hH0
            have k1 := learn_keeps (m.knows x.block) x.block.just
            have kt : ((m.knows x.block).learn x.block.just).voted = m.voted := by rw [k1.t]; unfold Mem.knows; split <;> rfl
            have kv : ((m.knows x.block).learn x.block.just).view = m.view := by rw [k1.v]; unfold Mem.knows; split <;> rfl
            have rr := r0.trans r1
            have hgu : K.gu x.block.num = x.block.just.block := hat.gu
            generalize hm1 : (m.knows x.block).learn x.block.just = m1 at h1 r1 l1 i1 kt kv rr ⊢
            have hbl1 : m1.block x.block.just.block = some p := rr.bl _ _ hp
            have hvw : m.view ≤ (if x.view < 1000 then x.view + 1 else x.view) := by split <;> omega
            split
            · rename_i hab
              refine ⟨h1.same rfl rfl rfl rfl rfl, ⟨rr.id, rr.bl, by show m.voted ≤ x.view; omega, hvw, rr.hi, rr.lk, rr.lg⟩, .inr ⟨rfl, ?_⟩⟩
              have hjg : K.gv x.block.just.block = x.block.just.view := hj.gv hv
              refine ⟨hf1.1, ho1.2, Int.le_refl _, hat.met, by rw [hat.gv]; exact hf1.2.2.1, by rw [hgu, hjg]; exact hf1.2.2.2.2.2, by rw [hgu, hjg]; exact hj, by rw [hgu]; exact l1, fun w hw => ?_⟩
              rw [hgu, hjg]
              have hwl : w ≤ m1.locked.view := by have := rr.lk; omega
              rw [Bool.or_eq_true, decide_eq_true_eq] at hab
              rcases hab with hab | hab
              · have ha := above_anc h1 i1 m1.locked.block _ _ (by rw [hbl1]; rfl) hab
                refine ⟨m1.locked.block, m1.locked.view, h1.lk, hwl, ha, ?_⟩
                have := anc_le hv ha hj
                rw [h1.lk.gv hv] at this
                exact this
              · exact ⟨x.block.just.block, x.block.just.view, hj, by omega, .refl _, Int.le_refl _⟩
            · exact ⟨h1.same rfl rfl rfl rfl rfl, ⟨rr.id, rr.bl, rr.vo, hvw, rr.hi, rr.lk, rr.lg⟩, .inl rfl⟩
/-- Which of four. -/
def has4 (a b c d : Bool) (i : Fin 4) : Bool := if i = 0 then a else if i = 1 then b else if i = 2 then c else d
theorem two_of : ∀ (a b c d : Bool) (i l : Fin 4), 2 ≤ a.toNat + b.toNat + c.toNat + d.toNat → has4 a b c d i = false → ∃ p q : Fin 4, p ≠ q ∧ p ≠ l ∧ q ≠ l ∧ (p = i ∨ has4 a b c d p = true) ∧ (q = i ∨ has4 a b c d q = true) := by decide +kernel
theorem has4_rl {l : List Tk} {i : Fin 4} (h : has4 (rl l).a (rl l).b (rl l).c (rl l).d i = true) : ∃ t ∈ l, t.fro = (i.val : Int) := by
  have key : ∀ j : Int, (l.any fun t => t.fro == j) = true → ∃ t ∈ l, t.fro = j := fun j hj => by
    obtain ⟨t, h1, h2⟩ := List.any_eq_true.1 hj
    exact ⟨t, h1, by simpa using h2⟩
  unfold has4 at h
  split at h
  · rename_i he; subst he; exact key 0 h
  · split at h
    · rename_i he; subst he; exact key 1 h
    · split at h
      · rename_i he; subst he; exact key 2 h
      · have : i = 3 := by omega
        subst this; exact key 3 h
theorem has4_no {l : List Tk} {i : Fin 4} (h : ∀ t ∈ l, t.fro ≠ (i.val : Int)) : has4 (rl l).a (rl l).b (rl l).c (rl l).d i = false := by
  rw [Bool.eq_false_iff]
  intro hh
  obtain ⟨t, h1, h2⟩ := has4_rl hh
  exact h t h1 h2
theorem took_vote {K : Clu} (hl : 0 ≤ K.liar ∧ K.liar ≤ 3) (hv : VG K) {m : Mem} (h : MInv0 K m) (hi : Inv m) (ho : ∀ n, (rl (m.votesFor n)).cnt = (m.votesFor n).length) (x : Msg) (hx : x.number < 18446744073709551616) (hb : x.fro ≠ K.liar → K.Vd x.fro x.view x.number) :
    MInv0 K (m.vote x).1 ∧ Rises m (m.vote x).1 := by
  unfold Mem.vote
  dsimp only
  split
  · exact ⟨h, Rises.refl m⟩
  · rename_i hf
    split
    · exact ⟨h, Rises.refl m⟩
    · cases hp : m.block x.number with
      | none => exact ⟨h, Rises.refl m⟩
      | some b =>
        dsimp only
        split
        · exact ⟨h, Rises.refl m⟩
        · rename_i hbv
          split
          · exact ⟨h, Rises.refl m⟩
          · split
            · exact ⟨h, Rises.refl m⟩
            · rename_i hnew
              have hf1 : 0 ≤ x.fro ∧ x.fro ≤ 3 ∧ 1 ≤ x.view ∧ x.view ≤ 999 := by omega
              have hbv1 : b.view = x.view := Classical.byContradiction hbv
              have hcb := put_same ((m.votesFor x.number).foldl (fun (c : Crt) t => c.put t.fro t.sl) { Crt.zero with view := x.view, block := x.number }) x.fro x.sl
              have hcb2 := puts_same (m.votesFor x.number) { Crt.zero with view := x.view, block := x.number }
              have hm1 : MInv0 K { m with votes := m.votes ++ [⟨x.fro, x.view, x.number, x.sl⟩] } := ⟨h.at1, h.js, h.hi, h.lk, h.lh, fun t ht hl => by
                rcases List.mem_append.1 ht with h1 | h1
                · exact h.vt t h1 hl
                · obtain rfl := List.mem_singleton.1 h1
                  exact hb hl, h.lg⟩
              have i1 : Inv { m with votes := m.votes ++ [⟨x.fro, x.view, x.number, x.sl⟩] } := hi.same rfl rfl rfl rfl ⟨hi.v0, hi.v1⟩ ⟨hi.t0, hi.t1⟩ hi.w0 hi.hi hi.lk hi.qc hi.ql (fun t ht => by
                rcases List.mem_append.1 ht with h1 | h1
                · exact hi.vt t h1
                · obtain rfl := List.mem_singleton.1 h1
                  exact ⟨hf1.1, hf1.2.1⟩)
              have r1 : Rises m { m with votes := m.votes ++ [⟨x.fro, x.view, x.number, x.sl⟩] } := ⟨rfl, fun _ _ h => h, Int.le_refl _, Int.le_refl _, Int.le_refl _, Int.le_refl _, [], (List.append_nil _).symm⟩
              generalize hC : ((m.votesFor x.number).foldl (fun (c : Crt) t => c.put t.fro t.sl) { Crt.zero with view := x.view, block := x.number }).put x.fro x.sl = C at hcb ⊢
              have hCv : C.view = x.view := hcb.1.trans hcb2.1
              have hCb : C.block = x.number := hcb.2.trans hcb2.2
              generalize ({ m with votes := m.votes ++ [⟨x.fro, x.view, x.number, x.sl⟩] } : Mem) = m1 at *
              have hn0 : x.number ≠ 0 := fun h0 => by
                rw [h0, zero_known hi.ch] at hp
                have := (Option.some.inj hp).symm
                subst this
                have : (0 : Int) = x.view := hbv1
                omega
              have hgv : K.gv x.number = x.view := by rw [(h.gv hi hp).1]; exact hbv1
              split
              · rename_i hthree
                have hbk : BackC K C.view C.block := by
                  rw [hCv, hCb]
                  right
                  refine ⟨hn0, ?_⟩
                  have hcnt := ho x.number
                  obtain ⟨fi, hfi⟩ : ∃ i : Fin 4, (i.val : Int) = x.fro := ⟨⟨x.fro.toNat, by omega⟩, by show ((x.fro.toNat : Nat) : Int) = x.fro; omega⟩
                  obtain ⟨fl, hfl⟩ : ∃ i : Fin 4, (i.val : Int) = K.liar := ⟨⟨K.liar.toNat, by omega⟩, by show ((K.liar.toNat : Nat) : Int) = K.liar; omega⟩
                  have hno : ∀ t ∈ m.votesFor x.number, t.fro ≠ (fi.val : Int) := fun t ht he => by
                    apply hnew
                    rw [List.any_eq_true]
                    exact ⟨t, ht, by rw [he, hfi]; simp⟩
                  obtain ⟨p, q, hpq, hpl, hql, hp1, hq1⟩ := two_of _ _ _ _ fi fl (by unfold Rl.cnt at hcnt; omega) (has4_no hno)
                  have key : ∀ p : Fin 4, p ≠ fl → (p = fi ∨ has4 (rl (m.votesFor x.number)).a (rl (m.votesFor x.number)).b (rl (m.votesFor x.number)).c (rl (m.votesFor x.number)).d p = true) → (p.val : Int) ≠ K.liar ∧ K.Vd p.val x.view x.number := fun p hpl hp1 => by
                    have h1 : (p.val : Int) ≠ K.liar := fun he => hpl (by rw [← hfl] at he; exact Fin.ext (by omega))
                    refine ⟨h1, ?_⟩
                    rcases hp1 with rfl | hp1
                    · rw [hfi] at h1 ⊢; exact hb h1
                    · obtain ⟨t, ht, hte⟩ := has4_rl hp1
                      obtain ⟨ht1, ht2⟩ := List.mem_filter.1 ht
                      have ht3 : t.n = x.number := by simpa using ht2
                      have h2 := h.vt t ht1 (by rw [hte]; exact h1)
                      obtain ⟨u, hu, e1, e2, e3⟩ := h2
                      have h3 := (hv u hu).vw
                      rw [e3, ht3, hgv, e2] at h3
                      exact ⟨u, hu, by rw [e1, hte], by rw [e2, ← h3], by rw [e3, ht3]⟩
                  have kp := key p hpl hp1
                  have kq := key q hql hq1
                  exact ⟨p.val, q.val, ⟨by omega, by omega⟩, ⟨by omega, by omega⟩, fun he => hpq (Fin.ext (by omega)), kp.1, kq.1, kp.2, kq.2⟩
                have hHC : Held m1 C := ⟨by rw [hCv]; omega, ⟨by rw [hCv]; omega, by rw [hCv]; omega, by rw [hCb]; exact hx⟩, b, by rw [hCb]; exact r1.bl _ _ hp, by rw [hCv]; exact hbv1⟩
                obtain ⟨h2, r2, _⟩ := minv_learn hv hm1 i1 hHC hbk
                have rr := r1.trans r2
                split
                · rename_i hvw
                  exact ⟨h2.same rfl rfl rfl rfl rfl, ⟨rr.id, rr.bl, rr.vo, by show m.view ≤ x.view + 1; have := rr.vw; omega, rr.hi, rr.lk, rr.lg⟩⟩
                · exact ⟨h2, rr⟩
              · exact ⟨hm1, r1⟩
theorem took_enters {K : Clu} (hv : VG K) {m : Mem} (h : MInv0 K m) (hi : Inv m) (x : Msg) (hx : x.cert.Ok) (hb : BackC K x.cert.view x.cert.block) :
    MInv0 K (m.enters1 x).1 ∧ Rises m (m.enters1 x).1 := by
  unfold Mem.enters1
  dsimp only
  split
  · exact ⟨h, Rises.refl m⟩
  · rename_i hf
    split
    · exact ⟨h, Rises.refl m⟩
    · cases hp : m.block x.cert.block with
      | none => exact ⟨h, Rises.refl m⟩
      | some b =>
        dsimp only
        split
        · exact ⟨h, Rises.refl m⟩
        · rename_i hbv
          split
          · exact ⟨h, Rises.refl m⟩
          · split
            · exact ⟨h, Rises.refl m⟩
            · have hf1 : 0 ≤ x.cert.view := by omega
              have hbv1 : b.view = x.cert.view := Classical.byContradiction hbv
              have hm1 : MInv0 K { m with enters := m.enters ++ [⟨x.fro, x.view, 0, 0⟩] } := h.same rfl rfl rfl rfl rfl
              have i1 : Inv { m with enters := m.enters ++ [⟨x.fro, x.view, 0, 0⟩] } := hi.same rfl rfl rfl rfl ⟨hi.v0, hi.v1⟩ ⟨hi.t0, hi.t1⟩ hi.w0 hi.hi hi.lk hi.qc hi.ql hi.vt
              have r1 : Rises m { m with enters := m.enters ++ [⟨x.fro, x.view, 0, 0⟩] } := ⟨rfl, fun _ _ h => h, Int.le_refl _, Int.le_refl _, Int.le_refl _, Int.le_refl _, [], (List.append_nil _).symm⟩
              have hHC : Held { m with enters := m.enters ++ [⟨x.fro, x.view, 0, 0⟩] } x.cert := ⟨hf1, hx, b, hp, hbv1⟩
              obtain ⟨h2, r2, _⟩ := minv_learn hv hm1 i1 hHC hb
              have rr := r1.trans r2
              split
              · rename_i hvw
                exact ⟨h2.same rfl rfl rfl rfl rfl, ⟨rr.id, rr.bl, rr.vo, by show m.view ≤ x.view; have := rr.vw; omega, rr.hi, rr.lk, rr.lg⟩⟩
              · exact ⟨h2, rr⟩
theorem took_takes {K : Clu} (hl : 0 ≤ K.liar ∧ K.liar ≤ 3) (hv : VG K) {m : Mem} (h : MInv0 K m) (hi : Inv m) (ho : ∀ n, (rl (m.votesFor n)).cnt = (m.votesFor n).length) (x : Msg) (hx : x.Ok) (hB : MsgB K x) : Takn K m (m.takes x) x := by
  unfold Mem.takes
  split
  · rename_i hk
    exact took_proposal hv h hi x hx.b (hB.p hk).1 (hB.p hk).2
  · split
    · rename_i hk
      have := took_vote hl hv h hi ho x hx.n (hB.v hk)
      exact ⟨this.1, this.2, .inl rfl⟩
    · split
      · rename_i hk
        have := took_enters hv h hi x hx.c (hB.e hk)
        exact ⟨this.1, this.2, .inl rfl⟩
      · exact took_no h x _
/-- A call ends. -/
theorem rises_ends (m : Mem) : Rises m m.ends.1 := by
  unfold Mem.ends
  split
  · have := rises_knows { m with queue := m.queue.tail, proposed := m.proposed ++ [m.view] } m.next
    exact ⟨this.id, this.bl, this.vo, this.vw, this.hi, this.lk, this.lg⟩
  · exact Rises.refl m
theorem minv_ends {K : Clu} {m : Mem} (h : MInv0 K m) (ha : m.may = true → MetB K m.next.num m.next) : MInv0 K m.ends.1 := by
  unfold Mem.ends
  split
  · rename_i hm
    exact minv_knows (m := { m with queue := m.queue.tail, proposed := m.proposed ++ [m.view] }) (h.same rfl rfl rfl rfl rfl) (ha hm) h.hi
  · exact h
theorem rises_wait {m : Mem} : Rises m m.wait.1 := by
  unfold Mem.wait
  dsimp only
  split
  · exact ⟨rfl, fun _ _ h => h, Int.le_refl _, by show m.view ≤ m.view + 1; omega, Int.le_refl _, Int.le_refl _, [], (List.append_nil _).symm⟩
  · exact ⟨rfl, fun _ _ h => h, Int.le_refl _, Int.le_refl _, Int.le_refl _, Int.le_refl _, [], (List.append_nil _).symm⟩
theorem minv_wait {K : Clu} {m : Mem} (h : MInv0 K m) : MInv0 K m.wait.1 := by
  unfold Mem.wait
  dsimp only
  split <;> exact h.same rfl rfl rfl rfl rfl
end Go.Proofs.YtkehpnobidendaaDoor

namespace Go.Proofs.YtkehpnobidendaaDoor
open Go.RowKit

theorem firstOf_append (n : Nat) (l : List Blk) (b : Blk) : firstOf n (l ++ [b]) = (firstOf n l).or (if b.num = n then some b else none) := by
  induction l with
  | nil => simp [firstOf]
  | cons a r ih =>
    simp only [List.cons_append, firstOf]
    split
    · rfl
    · exact ih
theorem meets_ext {K : Clu} (b : Blk) : KExt K (K.meets b) := by
  unfold Clu.meets
  split
  · exact ⟨rfl, fun _ h => h, fun _ _ h => h⟩
  · refine ⟨rfl, fun _ h => h, fun n o ho => ?_⟩
    show firstOf n (K.blocks ++ [b]) = some o
    rw [firstOf_append, ho]; rfl
theorem meets_same (K : Clu) (b : Blk) : (K.meets b).voted = K.voted ∧ (K.meets b).letters = K.letters ∧ (K.meets b).certs = K.certs ∧ (K.meets b).mem = K.mem ∧ (∀ k, (K.meets b).was k = K.was k) ∧ ((K.meets b).over = false → K.over = false) := by
  unfold Clu.meets
  split
  · refine ⟨rfl, rfl, rfl, rfl, fun _ => rfl, fun h => ?_⟩
    simp only [Bool.or_eq_false_iff] at h
    exact h.1.1
  · refine ⟨rfl, rfl, rfl, rfl, fun _ => rfl, fun h => ?_⟩
    simp only [Bool.or_eq_false_iff] at h
    exact h.1
theorem meets_at {K : Clu} {b : Blk} (h : (K.meets b).over = false) : MetB (K.meets b) b.num b := by
  unfold Clu.meets at h ⊢
  split at h
  · rename_i o ho
    simp only [Bool.or_eq_false_iff] at h
    obtain ⟨⟨_, h0⟩, h1⟩ := h
    refine ⟨by simpa using h0, o, ho, ?_⟩
    unfold Blk.other at h1
    simp only [Bool.or_eq_false_iff, bne_eq_false_iff_eq, Bool.not_eq_false', beq_iff_eq] at h1
    exact ⟨h1.1, by omega, h1.2.2⟩
  · rename_i ho
    simp only [Bool.or_eq_false_iff] at h
    refine ⟨by simpa using h.2, b, ?_, rfl, rfl, rfl⟩
    show firstOf b.num (K.blocks ++ [b]) = some b
    rw [firstOf_append, ho, if_pos rfl]; rfl
/-- No two votes of one member in one view. -/
def PwK (K : Clu) : Prop := K.voted.Pairwise fun t u => ¬ (t.fro = u.fro ∧ t.view = u.view)
theorem CInv.grow {K K' : Clu} (h : CInv K) (e : KExt K K') (hv : K'.voted = K.voted) (hc : ∀ c ∈ K'.certs, BackC K' c.view c.block) (hl : ∀ l ∈ K'.letters, MsgB K' l.msg) : CInv K' := by
  refine ⟨by rw [e.li]; exact h.lie, fun t ht => e.voteG h.vg (h.vg t (by rw [← hv]; exact ht)), ?_, ?_, hc, hl⟩
  · unfold OnceK; rw [hv]; exact h.one
  · intro t ht u hu h1 h2
    rw [hv] at ht hu
    exact e.safeAt h.vg (h.vg t ht) (h.vg u hu) (h.safe t ht u hu h1 h2)
/-- A letter that is no vote goes out: a proposal. -/
theorem cinv_prop {K : Clu} (h : CInv K) (l : Ltr) (hk : l.msg.kind = 1) (hb : BackC K l.msg.block.just.view l.msg.block.just.block) (ho : (({ K with letters := K.letters ++ [l] } : Clu).meets l.msg.block).over = false) :
    CInv (({ K with letters := K.letters ++ [l] } : Clu).meets l.msg.block) ∧ KExt K (({ K with letters := K.letters ++ [l] } : Clu).meets l.msg.block) := by
  have e0 : KExt K { K with letters := K.letters ++ [l] } := ⟨rfl, fun _ h => h, fun _ _ h => h⟩
  have e1 : KExt K (({ K with letters := K.letters ++ [l] } : Clu).meets l.msg.block) := e0.trans (meets_ext _)
  have ha := meets_at ho
  have hs := meets_same { K with letters := K.letters ++ [l] } l.msg.block
  refine ⟨h.grow e1 hs.1 (fun c hc => e1.back (h.crt c (by rw [hs.2.2.1] at hc; exact hc))) (fun x hx => ?_), e1⟩
  rw [hs.2.1] at hx
  rcases List.mem_append.1 hx with hx | hx
  · exact e1.msgB (h.ltr x hx)
  · obtain rfl := List.mem_singleton.1 hx
    exact ⟨fun _ => ⟨ha, e1.back hb⟩, (fun h2 => by rw [hk] at h2; cases h2), (fun h2 => by rw [hk] at h2; cases h2)⟩
/-- An Enter. -/
theorem cinv_enter {K : Clu} (h : CInv K) (l : Ltr) (hm : MsgB K l.msg) : CInv { K with letters := K.letters ++ [l] } ∧ KExt K { K with letters := K.letters ++ [l] } := by
  have e1 : KExt K { K with letters := K.letters ++ [l] } := ⟨rfl, fun _ h => h, fun _ _ h => h⟩
  refine ⟨h.grow e1 rfl (fun c hc => e1.back (h.crt c hc)) (fun x hx => ?_), e1⟩
  rcases List.mem_append.1 hx with hx | hx
  · exact e1.msgB (h.ltr x hx)
  · obtain rfl := List.mem_singleton.1 hx
    exact e1.msgB hm
theorem voteSum_same (v : Int) (n : Nat) : ∀ (l : List Vt) (a : Crt × Int), (voteSum v n l a).1.view = a.1.view ∧ (voteSum v n l a).1.block = a.1.block ∧ (voteSum v n l a).2 = a.2 + ((l.filter fun t => decide (t.view = v ∧ t.n = n)).length : Nat)
  | [], a => ⟨rfl, rfl, by simp [voteSum]⟩
  | t :: r, a => by
    unfold voteSum
    by_cases h : t.view = v ∧ t.n = n
    · rw [if_pos h]
      obtain ⟨h1, h2, h3⟩ := voteSum_same v n r (a.1.put t.fro (sealOf t.fro 2 t.view t.n), a.2 + 1)
      have hp := put_same a.1 t.fro (sealOf t.fro 2 t.view t.n)
      refine ⟨h1.trans hp.1, h2.trans hp.2, ?_⟩
      rw [h3, List.filter_cons_of_pos (by simpa using h)]
      simp only [List.length_cons]
      omega
    · rw [if_neg h]
      obtain ⟨h1, h2, h3⟩ := voteSum_same v n r a
      refine ⟨h1, h2, ?_⟩
      rw [h3, List.filter_cons_of_neg (by simpa using h)]
theorem two_votes {K : Clu} (hp : PwK K) {v : Int} {n : Nat} (h : 2 ≤ (K.voted.filter fun t => decide (t.view = v ∧ t.n = n)).length) : ∃ i j, i ≠ j ∧ K.Vd i v n ∧ K.Vd j v n := by
  have h1 : (K.voted.filter fun t => decide (t.view = v ∧ t.n = n)).Pairwise fun t u => ¬ (t.fro = u.fro ∧ t.view = u.view) := List.Pairwise.filter _ hp
  have h2 : ∀ t ∈ (K.voted.filter fun t => decide (t.view = v ∧ t.n = n)), t ∈ K.voted ∧ t.view = v ∧ t.n = n := fun t ht => by
    obtain ⟨a, b⟩ := List.mem_filter.1 ht
    exact ⟨a, by simpa using b⟩
  generalize (K.voted.filter fun t => decide (t.view = v ∧ t.n = n)) = L at h h1 h2
  match L, h, h1, h2 with
  | [], h, _, _ => simp at h
  | [_], h, _, _ => simp at h
  | t :: u :: r, _, h1, h2 =>
    have ht := h2 t (by simp)
    have hu := h2 u (by simp)
    have hne := (List.pairwise_cons.1 h1).1 u (by simp)
    exact ⟨t.fro, u.fro, fun he => hne ⟨he, by rw [ht.2.1, hu.2.1]⟩, ⟨t, ht.1, rfl, ht.2⟩, ⟨u, hu.1, rfl, hu.2⟩⟩
/-- A vote goes out. -/
theorem cinv_vote {K K' : Clu} (h : CInv K) (hp : PwK K) {m m' : Mem} {k v : Int} {n : Nat} (hk : 0 ≤ k ∧ k ≤ 3 ∧ k ≠ K.liar) (hn : NewVote K m m' v n) (hvo : ∀ t ∈ K.voted, t.fro = k → t.view ≤ m.voted ∧ K.gv (K.gu (K.gu t.n)) ≤ m.locked.view)
    (hvt : K'.voted = K.voted ++ [⟨k, v, n⟩]) (hbl : K'.blocks = K.blocks) (hli : K'.liar = K.liar) (hcr : ∀ c ∈ K'.certs, c ∈ K.certs ∨ (c.view = v ∧ c.block = n ∧ 2 ≤ (K'.voted.filter fun t => decide (t.view = v ∧ t.n = n)).length)) (hlt : ∀ l ∈ K'.letters, l ∈ K.letters ∨ MsgB K' l.msg) : CInv K' ∧ KExt K K' ∧ PwK K' := by
  have e : KExt K K' := ⟨hli, fun t ht => by rw [hvt]; exact List.mem_append_left _ ht, fun a o ho => by rw [hbl]; exact ho⟩
  have hmem : ∀ t ∈ K'.voted, t ∈ K.voted ∨ t = ⟨k, v, n⟩ := fun t ht => by
    rw [hvt] at ht
    rcases List.mem_append.1 ht with ht | ht
    · exact .inl ht
    · exact .inr (List.mem_singleton.1 ht)
  have hfr : ∀ t ∈ K.voted, t.fro = k → t.view < v := fun t ht hf => by
    have := (hvo t ht hf).1
    have := hn.fresh
    omega
  have hgn : VoteG K ⟨k, v, n⟩ := ⟨hk.1, hk.2.1, hk.2.2, hn.mt, hn.vw, hn.v1, hn.lt, hn.bk⟩
  have hvg : VG K' := fun t ht => by
    rcases hmem t ht with ht | rfl
    · exact e.voteG h.vg (h.vg t ht)
    · exact e.voteG h.vg hgn
  have hpw : PwK K' := by
    unfold PwK
    rw [hvt, List.pairwise_append]
    refine ⟨hp, List.pairwise_singleton _ _, fun t ht u hu => ?_⟩
    obtain rfl := List.mem_singleton.1 hu
    rintro ⟨h1, h2⟩
    have := hfr t ht h1
    have h2 : t.view = v := h2
    omega
  refine ⟨⟨by rw [hli]; exact h.lie, hvg, ?_, ?_, fun c hc => ?_, fun l hl => ?_⟩, e, hpw⟩
  · intro t ht u hu h1 h2
    rcases hmem t ht with ht | rfl
    · rcases hmem u hu with hu | rfl
      · exact h.one t ht u hu h1 h2
      · have := hfr t ht h1
        have h2 : t.view = v := h2
        omega
    · rcases hmem u hu with hu | rfl
      · have := hfr u hu h1.symm
        have h2 : v = u.view := h2
        omega
      · rfl
  · intro t ht u hu h1 h2
    rcases hmem t ht with ht | rfl
    · rcases hmem u hu with hu | rfl
      · exact e.safeAt h.vg (h.vg t ht) (h.vg u hu) (h.safe t ht u hu h1 h2)
      · have hl := (hvo t ht h1).2
        obtain ⟨q, v', a, b, c, d⟩ := hn.sf _ hl
        exact e.safeAt h.vg (h.vg t ht) hgn ⟨q, v', a, b, c, d⟩
    · rcases hmem u hu with hu | rfl
      · have := hfr u hu h1.symm
        have h2 : v < u.view := h2
        omega
      · have h2 : v < v := h2
        omega
  · rcases hcr c hc with hc | ⟨c1, c2, c3⟩
    · exact e.back (h.crt c hc)
    · rw [c1, c2]
      obtain ⟨i, j, hij, vi, vj⟩ := two_votes hpw c3
      obtain ⟨t, ht, t1, t2, t3⟩ := vi
      obtain ⟨u, hu, u1, u2, u3⟩ := vj
      have gt := hvg t ht
      have gu := hvg u hu
      subst t1 u1
      exact .inr ⟨hn.mt.1, t.fro, u.fro, ⟨gt.f0, gt.f3⟩, ⟨gu.f0, gu.f3⟩, hij, gt.fl, gu.fl, ⟨t, ht, rfl, t2, t3⟩, ⟨u, hu, rfl, u2, u3⟩⟩
  · rcases hlt l hl with hl | hl
    · exact e.msgB (h.ltr l hl)
    · exact hl
/-! The logs. -/
def UpK (K : Clu) : Nat → List Nat → Prop
  | _, [] => True
  | a, n :: r => K.gu n = a ∧ n ≠ 0 ∧ UpK K n r
theorem upK_snoc {K : Clu} : ∀ {a : Nat} {l : List Nat} {d : Nat}, UpK K a (l ++ [d]) ↔ UpK K a l ∧ K.gu d = l.getLastD a ∧ d ≠ 0
  | _, [], _ => by simp [UpK]
  | a, n :: l, d => by
    show (K.gu n = a ∧ n ≠ 0 ∧ UpK K n (l ++ [d])) ↔ (K.gu n = a ∧ n ≠ 0 ∧ UpK K n l) ∧ K.gu d = (n :: l).getLastD a ∧ d ≠ 0
    rw [upK_snoc, getLastD_cons' n a l]
    constructor
    · rintro ⟨h1, h2, h3, h4, h5⟩; exact ⟨⟨h1, h2, h3⟩, h4, h5⟩
    · rintro ⟨⟨h1, h2, h3⟩, h4, h5⟩; exact ⟨h1, h2, h3, h4, h5⟩
theorem snoc_cases (l : List Nat) : l = [] ∨ ∃ r d, l = r ++ [d] := by
  rcases List.eq_nil_or_concat l with h | ⟨r, d, h⟩
  · exact .inl h
  · exact .inr ⟨r, d, by simpa using h⟩
theorem upK_same {K : Clu} : ∀ (f : Nat) (l r : List Nat), l.length ≤ f → UpK K 0 l → UpK K 0 r → l.getLastD 0 = r.getLastD 0 → l = r
  | f, l, r, hf, hl, hr, he => by
    rcases snoc_cases l with rfl | ⟨l', d, rfl⟩
    · rcases snoc_cases r with rfl | ⟨r', e, rfl⟩
      · rfl
      · have := (upK_snoc.1 hr).2.2
        simp at he
        exact absurd he.symm this
    · rcases snoc_cases r with rfl | ⟨r', e, rfl⟩
      · have := (upK_snoc.1 hl).2.2
        simp at he
        exact absurd he this
      · have hde : d = e := by simpa using he
        subst hde
        cases f with
        | zero => simp at hf
        | succ f =>
          have h1 := upK_snoc.1 hl
          have h2 := upK_snoc.1 hr
          rw [upK_same f l' r' (by simp at hf; exact hf) h1.1 h2.1 (by rw [← h1.2.1, ← h2.2.1])]
theorem anc_path {K : Clu} {a n : Nat} (h : K.sys.Anc a n) : ∀ (l r : List Nat), UpK K 0 l → UpK K 0 r → l.getLastD 0 = a → r.getLastD 0 = n → ∃ s, r = l ++ s := by
  induction h with
  | refl => intro l r hl hr h1 h2; exact ⟨[], by rw [List.append_nil]; exact (upK_same _ l r (Nat.le_refl _) hl hr (by rw [h1, h2])).symm⟩
  | step hm _ ih =>
    intro l r hl hr h1 h2
    rcases snoc_cases r with rfl | ⟨r', e, rfl⟩
    · exact absurd h2.symm hm.1
    · have he := upK_snoc.1 hr
      simp at h2
      subst h2
      obtain ⟨s, hs⟩ := ih l r' hl he.1 h1 he.2.1.symm
      exact ⟨s ++ [e], by rw [hs, List.append_assoc]⟩
theorem isPrefix_refl : ∀ l : List ByteArray, isPrefix l l = true
  | [] => rfl
  | a :: r => by simp [isPrefix, isPrefix_refl r]
theorem isPrefix_more : ∀ {l r : List ByteArray} (s : List ByteArray), isPrefix l r = true → isPrefix l (r ++ s) = true
  | [], _, _, _ => rfl
  | _ :: _, [], _, h => by cases h
  | a :: l, b :: r, s, h => by
    simp only [isPrefix, Bool.and_eq_true] at h
    simp only [List.cons_append, isPrefix, Bool.and_eq_true]
    exact ⟨h.1, isPrefix_more s h.2⟩
theorem isPrefix_map {f g : Nat → ByteArray} : ∀ {l : List Nat} (s : List ByteArray), (∀ n ∈ l, (f n).toList = (g n).toList) → isPrefix (l.map f) (l.map g ++ s) = true
  | [], _, _ => rfl
  | a :: l, s, h => by
    simp only [List.map_cons, List.cons_append, isPrefix, Bool.and_eq_true, beq_iff_eq]
    exact ⟨h a (by simp), isPrefix_map s (fun n hn => h n (by simp [hn]))⟩
/-- What is known of a member besides. -/
structure MSafe (m : Mem) : Prop where
  iv : Inv m
  vo : ∀ n, (rl (m.votesFor n)).cnt = (m.votesFor n).length
  up : Up m 0 m.log
theorem MOk.safe {m : Mem} {n : Nat} (h : MOk m n) : MSafe m := ⟨h.iv, h.i2.vo, h.i2.up⟩
theorem upK_of {K : Clu} {m : Mem} (h : MInv0 K m) (hi : Inv m) : ∀ {a : Nat} {l : List Nat}, Up m a l → (∀ n ∈ l, n ≠ 0 ∧ (m.block n).isSome = true) → UpK K a l
  | _, [], _, _ => trivial
  | a, n :: r, hu, hn => by
    have h1 := hn n (by simp)
    obtain ⟨b, hb⟩ := Option.isSome_iff_exists.1 h1.2
    have e : m.up n = K.gu n := by rw [(h.gv hi hb).2]; unfold Mem.up; rw [hb]; rfl
    exact ⟨by rw [← e]; exact hu.1, h1.1, upK_of h hi hu.2 (fun k hk => hn k (by simp [hk]))⟩
theorem logs_one {K : Clu} {m m' : Mem} (h : MInv0 K m) (h' : MInv0 K m') (o : MSafe m) (o' : MSafe m') {s : List Nat} (hs : m'.log = m.log ++ s) : isPrefix m.commands m'.commands = true := by
  unfold Mem.commands
  rw [hs, List.map_append]
  refine isPrefix_map _ (fun n hn => ?_)
  have h1 := o.iv.lg n hn
  have h2 := o'.iv.lg n (by rw [hs]; exact List.mem_append_left _ hn)
  obtain ⟨b, hb⟩ := Option.isSome_iff_exists.1 h1.2
  obtain ⟨b', hb'⟩ := Option.isSome_iff_exists.1 h2.2
  obtain ⟨x, x1, _, _, x2⟩ := (h.at1 n b hb h1.1).ex
  obtain ⟨y, y1, _, _, y2⟩ := (h'.at1 n b' hb' h1.1).ex
  rw [x1] at y1
  obtain rfl := Option.some.inj y1
  rw [hb, hb']
  show b.cmd.toList = b'.cmd.toList
  rw [← x2, ← y2]
theorem logs_agree {K : Clu} (hc : CInv K) {m m' : Mem} (h : MInv0 K m) (h' : MInv0 K m') (o : MSafe m) (o' : MSafe m') : isPrefix m.commands m'.commands = true ∨ isPrefix m'.commands m.commands = true := by
  by_cases h0 : m.log = []
  · left; unfold Mem.commands; rw [h0]; rfl
  by_cases h0' : m'.log = []
  · right; unfold Mem.commands; rw [h0']; rfl
  have hS := hc.safe'
  have u := upK_of h o.iv o.up o.iv.lg
  have u' := upK_of h' o'.iv o'.up o'.iv.lg
  have key : ∀ d, K.sys.Done d → K.sys.Backed d := fun d hd => by
    obtain ⟨p, b, rfl, hpd, hd0, _, _, hB⟩ := hd.ex
    have b1 := (back_of hc.vg hB).up hc.vg
    have b2 := b1.up hc.vg
    change K.gu (K.gu b) = d at hpd
    rw [hpd] at b2
    exact (b2.backed hc.vg).resolve_left hd0
  have d1 := h.lg h0
  have d2 := h'.lg h0'
  by_cases hle : K.gv (m.log.getLastD 0) ≤ K.gv (m'.log.getLastD 0)
  · have ha := Sys.behind hS d1 _ _ (Nat.le_refl _) (key _ d2) hle
    obtain ⟨s, hs⟩ := anc_path ha _ _ u u' rfl rfl
    exact .inl (logs_one h h' o o' hs)
  · have ha := Sys.behind hS d2 _ _ (Nat.le_refl _) (key _ d1) (by show K.gv _ ≤ K.gv _; omega)
    obtain ⟨s, hs⟩ := anc_path ha _ _ u' u rfl rfl
    exact .inr (logs_one h' h o' o hs)
/-! The cluster. -/
def Vo (K : Clu) (k : Int) (m : Mem) : Prop := ∀ t ∈ K.voted, t.fro = k → t.view ≤ m.voted ∧ K.gv (K.gu (K.gu t.n)) ≤ m.locked.view
structure WasOk (s : Sta) (m : Mem) : Prop where
  lg : s.log = [] ∨ s.log = m.commands
  vw : s.view ≤ m.view
  hi : s.high ≤ m.high.view
  lk : s.locked ≤ m.locked.view
structure AInv (K : Clu) : Prop where
  c : CInv K
  pw : PwK K
  ml : K.mem.length = 4
  ms : ∀ k m, k < 4 → K.memAt k = some m → m.id = k ∧ (k : Int) ≠ K.liar ∧ MInv0 K m ∧ Vo K k m ∧ WasOk (K.was k) m
  wz : ∀ k, k < 4 → K.memAt k = none → (K.was k).log = []
theorem ainv_agree {K : Clu} (h : AInv K) (ho : ∀ k m, k < 4 → K.memAt k = some m → MSafe m) {i k : Nat} (hi : i < 4) (hk : k < 4) : (isPrefix (K.was i).log (K.was k).log || isPrefix (K.was k).log (K.was i).log) = true := by
  have key : ∀ i, i < 4 → (K.was i).log = [] ∨ ∃ m, K.memAt i = some m ∧ (K.was i).log = m.commands := fun i hi => by
    cases hm : K.memAt i with
    | none => exact .inl (h.wz i hi hm)
    | some m =>
      rcases (h.ms i m hi hm).2.2.2.2.lg with h1 | h1
      · exact .inl h1
      · exact .inr ⟨m, rfl, h1⟩
  rw [Bool.or_eq_true]
  rcases key i hi with h1 | ⟨m, h1, h2⟩
  · left; rw [h1]; rfl
  · rcases key k hk with g1 | ⟨m', g1, g2⟩
    · right; rw [g1]; rfl
    · rw [h2, g2]
      exact logs_agree h.c (h.ms i m hi h1).2.2.1 (h.ms k m' hk g1).2.2.1 (ho i m hi h1) (ho k m' hk g1)
theorem commands_rise {m m' : Mem} (hi : Inv m) (h : Rises m m') : ∃ r, m'.commands = m.commands ++ r := by
  obtain ⟨r, hr⟩ := h.lg
  refine ⟨r.map fun n => ((m'.block n).getD Blk.zero).cmd, ?_⟩
  unfold Mem.commands
  rw [hr, List.map_append]
  congr 1
  refine List.map_congr_left (fun n hn => ?_)
  obtain ⟨b, hb⟩ := Option.isSome_iff_exists.1 (hi.lg n hn).2
  rw [hb, h.bl n b hb]
theorem grows_ok {s : Sta} {m m' : Mem} (hi : Inv m) (h : WasOk s m) (hr : Rises m m') (hl : m'.locked.view ≤ m'.high.view) : s.grows m'.sta = true := by
  unfold Sta.grows Mem.sta
  simp only [Bool.and_eq_true, decide_eq_true_eq]
  refine ⟨?_, by have := hr.vw; have := h.vw; omega, by have := hr.hi; have := h.hi; omega, by have := hr.lk; have := h.lk; omega, hl⟩
  rcases h.lg with h1 | h1
  · rw [h1]; rfl
  · rw [h1]
    obtain ⟨r, e⟩ := commands_rise hi hr
    rw [e]
    exact isPrefix_more r (isPrefix_refl _)
/-- Clusters that differ in nothing that was sent. -/
structure SameC (K K' : Clu) : Prop where
  li : K'.liar = K.liar
  vt : K'.voted = K.voted
  bl : K'.blocks = K.blocks
  cr : K'.certs = K.certs
  lt : K'.letters = K.letters
theorem SameC.ext {K K' : Clu} (h : SameC K K') : KExt K K' := ⟨h.li, fun t ht => by rw [h.vt]; exact ht, fun n o ho => by rw [h.bl]; exact ho⟩
theorem SameC.cinv {K K' : Clu} (h : SameC K K') (hc : CInv K) : CInv K' := hc.grow h.ext h.vt (fun c hc' => h.ext.back (hc.crt c (by rw [← h.cr]; exact hc'))) (fun l hl => h.ext.msgB (hc.ltr l (by rw [← h.lt]; exact hl)))
theorem setMem_same (K : Clu) (k : Nat) (m : Mem) : SameC K (K.setMem k m) := ⟨rfl, rfl, rfl, rfl, rfl⟩
theorem setWas_same (K : Clu) (k : Nat) (s : Sta) : SameC K (K.setWas k s) := by
  unfold Clu.setWas
  split
  · exact ⟨rfl, rfl, rfl, rfl, rfl⟩
  · split
    · exact ⟨rfl, rfl, rfl, rfl, rfl⟩
    · split <;> exact ⟨rfl, rfl, rfl, rfl, rfl⟩
theorem setWas_mem (K : Clu) (k : Nat) (s : Sta) : (K.setWas k s).mem = K.mem ∧ (K.setWas k s).over = K.over := by
  unfold Clu.setWas
  split
  · exact ⟨rfl, rfl⟩
  · split
    · exact ⟨rfl, rfl⟩
    · split <;> exact ⟨rfl, rfl⟩
theorem setWas_at (K : Clu) {k i : Nat} (hk : k < 4) (hi : i < 4) (s : Sta) : (K.setWas k s).was i = if i = k then s else K.was i := by
  rcases (by omega : k = 0 ∨ k = 1 ∨ k = 2 ∨ k = 3) with rfl | rfl | rfl | rfl <;> rcases (by omega : i = 0 ∨ i = 1 ∨ i = 2 ∨ i = 3) with rfl | rfl | rfl | rfl <;> rfl
theorem memAt_set' {K : Clu} {k i : Nat} {m : Mem} (hk : k < K.mem.length) : (K.setMem k m).memAt i = if i = k then some m else K.memAt i := by
  unfold Clu.memAt Clu.setMem
  by_cases h : i = k
  · subst h
    rw [if_pos rfl]
    simp [List.getD, hk]
  · rw [if_neg h]
    simp [List.getD, Ne.symm h]
/-- What one letter does. -/
theorem send1_vote' {K : Clu} (hl : 0 ≤ K.liar) {k : Int} {l : Ltr} (hk : l.msg.kind = 2) (hf : l.msg.fro = k) (ht : -1 ≤ l.to ∧ l.to ≤ 3) (hn : ∀ t ∈ K.voted, t.fro = k → t.view < l.msg.view) :
    (K.send1 k l).2 = true ∧ (K.send1 k l).1.voted = K.voted ++ [⟨k, l.msg.view, l.msg.number⟩] ∧ (K.send1 k l).1.blocks = K.blocks ∧ (K.send1 k l).1.liar = K.liar ∧ (K.send1 k l).1.letters = K.letters ++ [l] ∧ (K.send1 k l).1.mem = K.mem ∧ (∀ i, (K.send1 k l).1.was i = K.was i) ∧
    ∀ c ∈ (K.send1 k l).1.certs, c ∈ K.certs ∨ (c.view = l.msg.view ∧ c.block = l.msg.number ∧ 2 ≤ ((K.send1 k l).1.voted.filter fun t => decide (t.view = l.msg.view ∧ t.n = l.msg.number)).length) := by
  unfold Clu.send1
  rw [if_neg (by omega)]
  dsimp only
  rw [if_neg (show ¬ l.msg.kind = 1 by omega), if_neg (show ¬ l.msg.kind ≠ 2 by omega)]
  have hany : (K.voted.any fun t => t.fro == k && t.view == l.msg.view) = false := by
    rw [Bool.eq_false_iff]
    intro h
    obtain ⟨t, h1, h2⟩ := List.any_eq_true.1 h
    simp only [Bool.and_eq_true, beq_iff_eq] at h2
    have := hn t h1 h2.1
    omega
  rw [if_neg (by rw [hany]; decide)]
  rw [if_pos hl]
  dsimp only
  have hs := voteSum_same l.msg.view l.msg.number (K.voted ++ [⟨k, l.msg.view, l.msg.number⟩]) ({ Crt.zero with view := l.msg.view, block := l.msg.number }, 0)
  split
  · rename_i h3
    refine ⟨rfl, rfl, rfl, rfl, rfl, rfl, fun _ => rfl, fun c hc => ?_⟩
    rcases List.mem_append.1 hc with hc | hc
    · exact .inl hc
    · obtain rfl := List.mem_singleton.1 hc
      have hp := put_same (voteSum l.msg.view l.msg.number (K.voted ++ [⟨k, l.msg.view, l.msg.number⟩]) ({ Crt.zero with view := l.msg.view, block := l.msg.number }, 0)).1 K.liar (sealOf K.liar 2 l.msg.view l.msg.number)
      refine .inr ⟨hp.1.trans hs.1, hp.2.trans hs.2.1, ?_⟩
      rw [hs.2.2] at h3
      show 2 ≤ ((K.voted ++ [(⟨k, l.msg.view, l.msg.number⟩ : Vt)]).filter fun t => decide (t.view = l.msg.view ∧ t.n = l.msg.number)).length
      omega
  · exact ⟨rfl, rfl, rfl, rfl, rfl, rfl, fun _ => rfl, fun c hc => .inl hc⟩
theorem send1_prop' {K : Clu} {k : Int} {l : Ltr} (hk : l.msg.kind = 1) (hf : l.msg.fro = k) (ht : -1 ≤ l.to ∧ l.to ≤ 3) : K.send1 k l = (({ K with letters := K.letters ++ [l] } : Clu).meets l.msg.block, true) := by
  unfold Clu.send1
  rw [if_neg (by omega)]
  dsimp only
  rw [if_pos hk, if_pos (show l.msg.kind ≠ 2 by omega)]
theorem send1_enter' {K : Clu} {k : Int} {l : Ltr} (hk : l.msg.kind = 3) (hf : l.msg.fro = k) (ht : -1 ≤ l.to ∧ l.to ≤ 3) : K.send1 k l = ({ K with letters := K.letters ++ [l] }, true) := by
  unfold Clu.send1
  rw [if_neg (by omega)]
  dsimp only
  rw [if_neg (show ¬ l.msg.kind = 1 by omega), if_pos (show l.msg.kind ≠ 2 by omega)]
/-- What is sent ahead of a call's end: nothing, a vote, an Enter. -/
inductive Sent1 (K : Clu) (m m1 : Mem) (k : Nat) : List Ltr → Prop
  | no : Sent1 K m m1 k []
  | vote (l : Ltr) : l.msg.kind = 2 → l.msg.fro = (k : Int) → (-1 ≤ l.to ∧ l.to ≤ 3) → NewVote K m m1 l.msg.view l.msg.number → Sent1 K m m1 k [l]
  | enter (l : Ltr) : l.msg.kind = 3 → l.msg.fro = (k : Int) → (-1 ≤ l.to ∧ l.to ≤ 3) → BackC K l.msg.cert.view l.msg.cert.block → Sent1 K m m1 k [l]
/-- What the cluster is behind letters. -/
structure KSent (K K1 : Clu) (k : Nat) (m m1 : Mem) : Prop where
  c : CInv K1
  pw : PwK K1
  e : KExt K K1
  mem : K1.mem = K.mem
  was : ∀ i, K1.was i = K.was i
  vt : ∀ t ∈ K1.voted, t ∈ K.voted ∨ (t.fro = k ∧ t.view ≤ m1.voted ∧ K.met t.n ∧ BackC K (K.gv (K.gu t.n)) (K.gu t.n) ∧ K.gv (K.gu (K.gu t.n)) ≤ m1.locked.view)
theorem sent1_goes {K : Clu} (hc : CInv K) (hp : PwK K) {m m1 : Mem} {k : Nat} (hk : k < 4) (hkl : (k : Int) ≠ K.liar) (hvo : Vo K k m) {o : List Ltr} (ho : Sent1 K m m1 k o) : (K.sends k o).2 = true ∧ KSent K (K.sends k o).1 k m m1 ∧ ∀ r, K.sends k (o ++ r) = (K.sends k o).1.sends k r := by
  cases ho with
  | no => exact ⟨rfl, ⟨hc, hp, KExt.refl K, rfl, fun _ => rfl, fun t ht => .inl ht⟩, fun r => rfl⟩
  | vote l h1 h2 h3 h4 =>
    obtain ⟨s1, s2, s3, s4, s5, s6, s7, s8⟩ := send1_vote' (K := K) hc.lie.1 h1 h2 h3 (fun t ht hf => by have := (hvo t ht hf).1; have := h4.fresh; omega)
    have es : K.sends k [l] = K.send1 k l := by
      unfold Clu.sends
      rw [if_pos s1]
      show ((K.send1 k l).1, true) = _
      rw [← s1]
    have es2 : ∀ r, K.sends k ([l] ++ r) = (K.send1 k l).1.sends k r := fun r => by
      show K.sends k (l :: r) = _
      rw [Clu.sends, if_pos s1]
    rw [es]
    obtain ⟨c1, e1, p1⟩ := cinv_vote (K' := (K.send1 k l).1) hc hp (m := m) (m' := m1) (k := (k : Int)) (v := l.msg.view) (n := l.msg.number) ⟨by omega, by omega, hkl⟩ h4 hvo s2 s3 s4 s8 (fun x hx => by
      rw [s5] at hx
      rcases List.mem_append.1 hx with hx | hx
      · exact .inl hx
      · obtain rfl := List.mem_singleton.1 hx
        refine .inr ⟨(fun h => by rw [h1] at h; cases h), fun _ _ => ?_, (fun h => by rw [h1] at h; cases h)⟩
        rw [h2]
        exact ⟨_, by rw [s2]; exact List.mem_append_right _ (List.mem_singleton.2 rfl), rfl, rfl, rfl⟩)
    refine ⟨s1, ⟨c1, p1, e1, s6, s7, fun t ht => ?_⟩, es2⟩
    rw [s2] at ht
    rcases List.mem_append.1 ht with ht | ht
    · exact .inl ht
    · obtain rfl := List.mem_singleton.1 ht
      exact .inr ⟨rfl, h4.vo, h4.mt, h4.bk, h4.lk⟩
  | enter l h1 h2 h3 h4 =>
    have s := send1_enter' (K := K) h1 h2 h3
    have es : K.sends k [l] = K.send1 k l := by
      unfold Clu.sends
      rw [s]; rfl
    have es2 : ∀ r, K.sends k ([l] ++ r) = (K.send1 k l).1.sends k r := fun r => by
      show K.sends k (l :: r) = _
      rw [Clu.sends, s]; rfl
    obtain ⟨c1, e1⟩ := cinv_enter hc l ⟨(fun h => by rw [h1] at h; cases h), (fun h => by rw [h1] at h; cases h), fun _ => h4⟩
    rw [es]
    refine ⟨by rw [s], ?_, es2⟩
    rw [s]
    exact ⟨c1, hp, e1, rfl, fun _ => rfl, fun t ht => .inl ht⟩
theorem meets_setMem (K : Clu) (k : Nat) (m : Mem) (b : Blk) : (K.setMem k m).meets b = (K.meets b).setMem k m := by
  unfold Clu.meets Clu.setMem
  dsimp only
  split <;> rfl
/-- The certificate that a vote makes, with the liar's seal. -/
def csOf (liar : Int) (vs : List Vt) (v : Int) (n : Nat) : Crt × Int :=
  let cs := voteSum v n vs ({ Crt.zero with view := v, block := n }, 0)
  if 0 ≤ liar then (cs.1.put liar (sealOf liar 2 v n), cs.2 + 1) else cs
def Clu.voteEnd (K : Clu) (l : Ltr) (f : Int) (cs : Crt × Int) : Clu :=
  let K3 : Clu := { K with letters := K.letters ++ [l], voted := K.voted ++ [⟨f, l.msg.view, l.msg.number⟩] }
  if 3 ≤ cs.2 then { K3 with certs := K3.certs ++ [cs.1] } else K3
theorem send1_v {K : Clu} {f : Int} {l : Ltr} (h1 : ¬ (l.msg.fro ≠ f ∨ l.to < -1 ∨ 3 < l.to)) (h2 : l.msg.kind = 2) : K.send1 f l = if K.voted.any (fun t => t.fro == f && t.view == l.msg.view) then ({ K with letters := K.letters ++ [l] }, false) else (K.voteEnd l f (csOf K.liar (K.voted ++ [⟨f, l.msg.view, l.msg.number⟩]) l.msg.view l.msg.number), true) := by
  unfold Clu.send1
  rw [if_neg h1]
  dsimp only
  rw [if_neg (show ¬ l.msg.kind = 1 by omega), if_neg (show ¬ l.msg.kind ≠ 2 by omega)]
  rfl
theorem voteEnd_set (K : Clu) (k : Nat) (m : Mem) (l : Ltr) (f : Int) (cs : Crt × Int) : (K.setMem k m).voteEnd l f cs = (K.voteEnd l f cs).setMem k m := by
  unfold Clu.voteEnd
  dsimp only
  split <;> rfl
theorem send1_setMem (K : Clu) (k : Nat) (m : Mem) (f : Int) (l : Ltr) : (K.setMem k m).send1 f l = ((K.send1 f l).1.setMem k m, (K.send1 f l).2) := by
  by_cases h1 : l.msg.fro ≠ f ∨ l.to < -1 ∨ 3 < l.to
  · unfold Clu.send1
    rw [if_pos h1, if_pos h1]
  · by_cases h3 : l.msg.kind = 2
    · rw [send1_v h1 h3, send1_v h1 h3]
      show (if (K.voted.any fun t => t.fro == f && t.view == l.msg.view) = true then _ else _) = _
      split
      · rfl
      · show ((K.setMem k m).voteEnd l f _, true) = ((K.voteEnd l f _).setMem k m, true)
        rw [voteEnd_set]
        rfl
    · unfold Clu.send1
      rw [if_neg h1, if_neg h1]
      dsimp only
      rw [if_pos h3, if_pos h3]
      by_cases h2 : l.msg.kind = 1
      · rw [if_pos h2, if_pos h2]
        exact congrArg (fun x => (x, true)) (meets_setMem { K with letters := K.letters ++ [l] } k m l.msg.block)
      · rw [if_neg h2, if_neg h2]; rfl
theorem sends_setMem (k : Nat) (m : Mem) (f : Int) : ∀ (o : List Ltr) (K : Clu), (K.setMem k m).sends f o = ((K.sends f o).1.setMem k m, (K.sends f o).2)
  | [], K => rfl
  | l :: r, K => by
    unfold Clu.sends
    rw [send1_setMem]
    dsimp only
    split
    · exact sends_setMem k m f r _
    · rfl
theorem after_is (K : Clu) (k : Nat) (m : Mem) (o : List Ltr) : K.after k m o = (((K.sends k o).1.setMem k m).setWas k m.sta, (K.sends k o).2 && ((K.sends k o).1.was k).grows m.sta) := by
  unfold Clu.after
  dsimp only
  rw [sends_setMem]
  rfl
theorem after_ainv {K : Clu} (h : AInv K) {k : Nat} {m : Mem} (hk : k < 4) (hm : K.memAt k = some m) (ok : MSafe m) {m1 : Mem} {o1 : List Ltr} (h1 : MInv0 K m1) (r1 : Rises m m1) (hs : Sent1 K m m1 k o1) (hover : (K.after k m1.ends.1 (o1 ++ m1.ends.2)).1.over = false) :
    AInv (K.after k m1.ends.1 (o1 ++ m1.ends.2)).1 ∧ (K.after k m1.ends.1 (o1 ++ m1.ends.2)).2 = true := by
  obtain ⟨hid, hkl, hM, hvo, hwas⟩ := h.ms k m hk hm
  obtain ⟨s1, g1, s2⟩ := sent1_goes h.c h.pw hk hkl hvo hs
  rw [after_is] at hover ⊢
  rw [s2] at hover ⊢
  have hid1 : m1.id = (k : Int) := r1.id.trans hid
  generalize K.sends k o1 = R1 at s1 g1 hover ⊢
  obtain ⟨K1, b1⟩ := R1
  dsimp only at s1 g1 hover ⊢
  -- the call's end
  have key : (K1.sends k m1.ends.2).2 = true ∧ CInv (K1.sends k m1.ends.2).1 ∧ KExt K1 (K1.sends k m1.ends.2).1 ∧ (K1.sends k m1.ends.2).1.voted = K1.voted ∧ (K1.sends k m1.ends.2).1.mem = K1.mem ∧ (∀ i, (K1.sends k m1.ends.2).1.was i = K1.was i) ∧ (m1.may = true → MetB (K1.sends k m1.ends.2).1 m1.next.num m1.next) := by
    cases hmay : m1.may with
    | false =>
      rw [ends_no hmay]
      exact ⟨rfl, g1.c, KExt.refl _, rfl, rfl, fun _ => rfl, fun h => by cases h⟩
    | true =>
      have e1 := congrArg (fun r => (K1.sends k r.2)) (ends_yes hmay)
      dsimp only at e1
      have ep := send1_prop' (K := K1) (k := (k : Int)) (l := ⟨-1, propMsg m1.view m1.next m1.id (sealOf m1.id 1 m1.view m1.next.num)⟩) rfl hid1 ⟨Int.le_refl _, by show (-1 : Int) ≤ 3; decide⟩
      have e2 : K1.sends k m1.ends.2 = (({ K1 with letters := K1.letters ++ [⟨-1, propMsg m1.view m1.next m1.id (sealOf m1.id 1 m1.view m1.next.num)⟩] } : Clu).meets m1.next, true) := by
        rw [e1]
        unfold Clu.sends
        rw [ep]; rfl
      have ho2 : (({ K1 with letters := K1.letters ++ [⟨-1, propMsg m1.view m1.next m1.id (sealOf m1.id 1 m1.view m1.next.num)⟩] } : Clu).meets m1.next).over = false := by
        rw [(setWas_mem _ _ _).2] at hover
        change (K1.sends k m1.ends.2).1.over = false at hover
        rw [e2] at hover
        exact hover
      rw [e2]
      obtain ⟨c2, x2⟩ := cinv_prop g1.c ⟨-1, propMsg m1.view m1.next m1.id (sealOf m1.id 1 m1.view m1.next.num)⟩ rfl (g1.e.back h1.hi) ho2
      have hsm := meets_same ({ K1 with letters := K1.letters ++ [⟨-1, propMsg m1.view m1.next m1.id (sealOf m1.id 1 m1.view m1.next.num)⟩] } : Clu) m1.next
      exact ⟨rfl, c2, x2, hsm.1, hsm.2.2.2.1, hsm.2.2.2.2.1, fun _ => meets_at ho2⟩
  obtain ⟨t1, c2, x2, v2, mm2, w2, a2⟩ := key
  generalize K1.sends k m1.ends.2 = R2 at t1 c2 x2 v2 mm2 w2 a2 ⊢
  obtain ⟨K2, b2⟩ := R2
  dsimp only at t1 c2 x2 v2 mm2 w2 a2 ⊢
  subst t1
  have E : KExt K K2 := g1.e.trans x2
  have hM2 : MInv0 K2 m1.ends.1 := minv_ends (E.minv h.c.vg h1) a2
  have hR : Rises m m1.ends.1 := r1.trans (rises_ends m1)
  have hwK : K2.was k = K.was k := (w2 k).trans (g1.was k)
  have hgr : (K2.was k).grows m1.ends.1.sta = true := by rw [hwK]; exact grows_ok ok.iv hwas hR hM2.lh
  have hsame : SameC K2 ((K2.setMem k m1.ends.1).setWas k m1.ends.1.sta) := by
    have a := setMem_same K2 k m1.ends.1
    have b := setWas_same (K2.setMem k m1.ends.1) k m1.ends.1.sta
    exact ⟨b.li.trans a.li, b.vt.trans a.vt, b.bl.trans a.bl, b.cr.trans a.cr, b.lt.trans a.lt⟩
  have hml : K2.mem = K.mem := mm2.trans g1.mem
  have hmem : ∀ i, ((K2.setMem k m1.ends.1).setWas k m1.ends.1.sta).memAt i = if i = k then some m1.ends.1 else K.memAt i := fun i => by
    have e1 : ((K2.setMem k m1.ends.1).setWas k m1.ends.1.sta).memAt i = (K2.setMem k m1.ends.1).memAt i := by unfold Clu.memAt; rw [(setWas_mem _ _ _).1]
    rw [e1, memAt_set' (by rw [hml, h.ml]; exact hk)]
    split
    · rfl
    · unfold Clu.memAt; rw [hml]
  have hvo2 : ∀ (i : Nat) (m' : Mem), (∀ t ∈ K2.voted, t.fro = (i : Int) → t ∈ K.voted) → Vo K i m' → Vo K2 i m' := fun i m' hold hv t ht hf => by
    have ht2 := hold t ht hf
    have := hv t ht2 hf
    have hg := h.c.vg t ht2
    rw [E.gu (.inr hg.mt), E.gu (hg.bk.zm h.c.vg), E.gv ((hg.bk.up h.c.vg).zm h.c.vg)]
    exact this
  refine ⟨⟨hsame.cinv c2, ?_, ?_, ?_, ?_⟩, by rw [hgr]; rfl⟩
  · unfold PwK; rw [hsame.vt, v2]; exact g1.pw
  · rw [(setWas_mem _ _ _).1]
    show (K2.mem.set k (some m1.ends.1)).length = 4
    rw [List.length_set, hml, h.ml]
  · intro i m' hi hm'
    rw [hmem] at hm'
    rw [setWas_at _ hk hi]
    by_cases hik : i = k
    · subst hik
      rw [if_pos rfl] at hm' ⊢
      obtain rfl := Option.some.inj hm'
      refine ⟨hR.id.trans hid, by rw [hsame.li, E.li]; exact hkl, hsame.ext.minv c2.vg hM2, ?_, ⟨.inr rfl, Int.le_refl _, Int.le_refl _, Int.le_refl _⟩⟩
      intro t ht hf
      rw [hsame.vt, v2] at ht
      have e3 : ∀ n, ((K2.setMem i m1.ends.1).setWas i m1.ends.1.sta).gv n = K2.gv n := fun n => by unfold Clu.gv; rw [hsame.bl]
      have e4 : ∀ n, ((K2.setMem i m1.ends.1).setWas i m1.ends.1.sta).gu n = K2.gu n := fun n => by unfold Clu.gu; rw [hsame.bl]
      rw [e4, e4, e3]
      have hlk := hR.lk
      have hvo' := hR.vo
      rcases g1.vt t ht with ht | ⟨_, q1, q2, q3, q4⟩
      · have h5 := hvo t ht hf
        have hg := h.c.vg t ht
        rw [E.gu (.inr hg.mt), E.gu (hg.bk.zm h.c.vg), E.gv ((hg.bk.up h.c.vg).zm h.c.vg)]
        exact ⟨by omega, by omega⟩
      · rw [E.gu (.inr q2), E.gu (q3.zm h.c.vg), E.gv ((q3.up h.c.vg).zm h.c.vg)]
        have h6 := (rises_ends m1).lk
        have h7 := (rises_ends m1).vo
        exact ⟨by omega, by omega⟩
    · rw [if_neg hik] at hm' ⊢
      obtain ⟨a1, a2, a3, a4, a5⟩ := h.ms i m' hi hm'
      have hw : (K2.setMem k m1.ends.1).was i = K.was i := (w2 i).trans (g1.was i)
      refine ⟨a1, by rw [hsame.li, E.li]; exact a2, (E.trans hsame.ext).minv h.c.vg a3, ?_, by rw [hw]; exact a5⟩
      have hold : ∀ t ∈ K2.voted, t.fro = (i : Int) → t ∈ K.voted := fun t ht hf => by
        rw [v2] at ht
        rcases g1.vt t ht with ht | ⟨q, _⟩
        · exact ht
        · omega
      have hv2 := hvo2 i m' hold a4
      intro t ht hf
      rw [hsame.vt] at ht
      have := hv2 t ht hf
      have e3 : ∀ n, ((K2.setMem k m1.ends.1).setWas k m1.ends.1.sta).gv n = K2.gv n := fun n => by unfold Clu.gv; rw [hsame.bl]
      have e4 : ∀ n, ((K2.setMem k m1.ends.1).setWas k m1.ends.1.sta).gu n = K2.gu n := fun n => by unfold Clu.gu; rw [hsame.bl]
      rw [e4, e4, e3]
      exact this
  · intro i hi hm'
    rw [hmem] at hm'
    rw [setWas_at _ hk hi]
    by_cases hik : i = k
    · subst hik; rw [if_pos rfl] at hm'; cases hm'
    · rw [if_neg hik] at hm' ⊢
      have hw : (K2.setMem k m1.ends.1).was i = K.was i := (w2 i).trans (g1.was i)
      rw [hw]
      exact h.wz i hi hm'
/-- A message comes to a member. -/
theorem comes_ainv {K : Clu} (h : AInv K) (ho : ∀ k m, k < 4 → K.memAt k = some m → MSafe m) {k : Nat} (hk : k < 4) {x : Msg} (hx : x.Ok) (hB : MsgB K x) (hover : (K.comes k x).1.over = false) : AInv (K.comes k x).1 ∧ (K.comes k x).2 = true := by
  unfold Clu.comes at hover ⊢
  cases hm : K.memAt k with
  | none => exact ⟨h, rfl⟩
  | some m =>
    rw [hm] at hover
    dsimp only at hover ⊢
    obtain ⟨hid, hkl, hM, hvo, hwas⟩ := h.ms k m hk hm
    have ok := ho k m hk hm
    have ht := took_takes h.c.lie h.c.vg hM ok.iv ok.vo x hx hB
    refine after_ainv h hk hm ok (m1 := (m.takes x).1) (o1 := (m.takes x).2.1) ht.inv ht.rise ?_ hover
    rcases ht.out with h1 | ⟨h1, h2⟩
    · rw [h1]; exact .no
    · rw [h1]
      exact .vote _ rfl hid ⟨by show -1 ≤ (x.view + 1) % 4; omega, by show (x.view + 1) % 4 ≤ 3; omega⟩ h2
/-- A member ticks. -/
theorem ticks_ainv {K : Clu} (h : AInv K) (ho : ∀ k m, k < 4 → K.memAt k = some m → MSafe m) {k : Nat} (hk : k < 4) (hover : (K.ticks k).1.over = false) : AInv (K.ticks k).1 ∧ (K.ticks k).2 = true := by
  unfold Clu.ticks at hover ⊢
  cases hm : K.memAt k with
  | none => exact ⟨h, rfl⟩
  | some m =>
    rw [hm] at hover
    dsimp only at hover ⊢
    obtain ⟨hid, hkl, hM, hvo, hwas⟩ := h.ms k m hk hm
    have ok := ho k m hk hm
    refine after_ainv h hk hm ok (m1 := m.wait.1) (o1 := m.wait.2) (minv_wait hM) rises_wait ?_ hover
    unfold Mem.wait
    dsimp only
    split
    · exact .enter _ rfl hid ⟨by show -1 ≤ (m.view + 1) % 4; omega, by show (m.view + 1) % 4 ≤ 3; omega⟩ hM.hi
    · exact .no
end Go.Proofs.YtkehpnobidendaaDoor

namespace Go.Proofs.YtkehpnobidendaaDoor
open Go.RowKit

/-! The cluster's lists. -/
def LQ (K : Clu) : Prop := K.Len (K.letters.length + 1)
theorem send1_letters (K : Clu) (f : Int) (l : Ltr) : (K.send1 f l).1 = K ∨ (K.send1 f l).1.letters = K.letters ++ [l] := by
  by_cases hb : l.msg.fro ≠ f ∨ l.to < -1 ∨ 3 < l.to
  · left; rw [send1_bad hb]
  right
  by_cases hp : l.msg.kind = 1
  · rw [send1_prop hb hp]
    exact (meets_keep (K.addL l) l.msg.block).1
  by_cases h2k : l.msg.kind = 2
  · cases ha : K.voted.any (fun t => t.fro == f && t.view == l.msg.view) with
    | true => rw [send1_twice hb h2k ha]; rfl
    | false =>
      rw [send1_vote hb h2k ha]
      dsimp only
      split <;> rfl
  · rw [send1_other hb hp h2k]; rfl
theorem sends_lq (f : Int) (hf : 0 ≤ f ∧ f ≤ 3) : ∀ (ls : List Ltr) (K : Clu), K.Ok → LQ K → (∀ l ∈ ls, l.Ok) → (K.sends f ls).1.Ok ∧ LQ (K.sends f ls).1 ∧ (K.sends f ls).1.letters.length ≤ K.letters.length + ls.length
  | [], K, h, hl, _ => ⟨h, hl, by simp [Clu.sends]⟩
  | l :: r, K, h, hl, hk => by
    have h1 := send1_sent h hl f hf l (hk l (by simp))
    have h2 : LQ (K.send1 f l).1 ∧ (K.send1 f l).1.letters.length ≤ K.letters.length + 1 := by
      rcases send1_letters K f l with e | e
      · rw [e]; exact ⟨hl, by omega⟩
      · have e2 : (K.send1 f l).1.letters.length = K.letters.length + 1 := by rw [e]; simp
        refine ⟨?_, by omega⟩
        unfold LQ
        rw [e2]
        exact h1.len
    unfold Clu.sends
    split
    · obtain ⟨a, b, c⟩ := sends_lq f hf r (K.send1 f l).1 h1.ok h2.1 (fun x hx => hk x (List.mem_cons_of_mem _ hx))
      exact ⟨a, b, by simp only [List.length_cons]; omega⟩
    · exact ⟨h1.ok, h2.1, by simp only [List.length_cons]; omega⟩
/-! A member's lists. -/
def Mem.wt (m : Mem) : Nat := m.view.toNat + m.voted.toNat + m.proposed.length
structure MBnd (m : Mem) : Prop where
  pn : m.proposed.Nodup
  pv : ∀ v ∈ m.proposed, 1 ≤ v ∧ v ≤ 1000
  bn : (m.blocks.map (·.1)).Nodup
  ev : ∀ t ∈ m.enters, 1 ≤ t.view ∧ t.view ≤ 1000
theorem MBnd.same {m m' : Mem} (h : MBnd m) (h1 : m'.proposed = m.proposed) (h2 : m'.blocks = m.blocks) (h3 : m'.enters = m.enters) : MBnd m' := ⟨by rw [h1]; exact h.pn, by rw [h1]; exact h.pv, by rw [h2]; exact h.bn, by rw [h3]; exact h.ev⟩
theorem find_none {n : Nat} : ∀ {l : List (Nat × Blk)}, (find n l).isSome = false → n ∉ l.map (·.1)
  | [], _ => by simp
  | (k, b) :: r, h => by
    unfold find at h
    split at h
    · cases h
    · rename_i hk
      simp only [List.map_cons, List.mem_cons, not_or]
      exact ⟨fun e => hk e.symm, find_none h⟩
theorem mbnd_knows {m : Mem} (h : MBnd m) (b : Blk) : MBnd (m.knows b) ∧ (m.knows b).proposed = m.proposed := by
  unfold Mem.knows
  split
  · exact ⟨h, rfl⟩
  · rename_i hs
    refine ⟨⟨h.pn, h.pv, ?_, h.ev⟩, rfl⟩
    show ((m.blocks ++ [(b.num, b)]).map (·.1)).Nodup
    rw [List.map_append, List.nodup_append]
    refine ⟨h.bn, by simp, fun a ha c hc => ?_⟩
    simp only [List.map_cons, List.map_nil, List.mem_singleton] at hc
    subst hc
    intro e
    subst e
    exact find_none (by rw [Bool.not_eq_true] at hs; exact hs) ha
theorem mbnd_learn {m : Mem} (h : MBnd m) (c : Crt) : MBnd (m.learn c) ∧ (m.learn c).proposed = m.proposed := by
  have k := learn_keeps m c
  exact ⟨h.same k.pr k.b k.es, k.pr⟩
theorem mbnd_takes {m : Mem} (h : MBnd m) (x : Msg) : MBnd (m.takes x).1 ∧ (m.takes x).1.proposed = m.proposed := by
  unfold Mem.takes
  split
  · unfold Mem.proposal
    dsimp only
    split
    · exact ⟨h, rfl⟩
    · split
      · exact ⟨h, rfl⟩
      · split
        · exact ⟨h, rfl⟩
        · split
          · exact ⟨h, rfl⟩
          · split
            · exact ⟨h, rfl⟩
            · obtain ⟨a, b⟩ := mbnd_knows h x.block
              obtain ⟨c, d⟩ := mbnd_learn a x.block.just
              split
              · exact ⟨c.same rfl rfl rfl, d.trans b⟩
              · exact ⟨c.same rfl rfl rfl, d.trans b⟩
  · split
    · unfold Mem.vote
      dsimp only
      split
      · exact ⟨h, rfl⟩
      · split
        · exact ⟨h, rfl⟩
        · split
          · exact ⟨h, rfl⟩
          · split
            · exact ⟨h, rfl⟩
            · split
              · exact ⟨h, rfl⟩
              · split
                · exact ⟨h, rfl⟩
                · split
                  · have h1 : MBnd { m with votes := m.votes ++ [⟨x.fro, x.view, x.number, x.sl⟩] } := h.same rfl rfl rfl
                    obtain ⟨c, d⟩ := mbnd_learn h1 (((m.votesFor x.number).foldl (fun (c : Crt) t => c.put t.fro t.sl) { Crt.zero with view := x.view, block := x.number }).put x.fro x.sl)
                    split
                    · exact ⟨c.same rfl rfl rfl, d⟩
                    · exact ⟨c, d⟩
                  · exact ⟨h.same rfl rfl rfl, rfl⟩
    · split
      · unfold Mem.enters1
        dsimp only
        split
        · exact ⟨h, rfl⟩
        · rename_i hf
          split
          · exact ⟨h, rfl⟩
          · split
            · exact ⟨h, rfl⟩
            · split
              · exact ⟨h, rfl⟩
              · split
                · exact ⟨h, rfl⟩
                · split
                  · exact ⟨h, rfl⟩
                  · have h1 : MBnd { m with enters := m.enters ++ [⟨x.fro, x.view, 0, 0⟩] } := ⟨h.pn, h.pv, h.bn, fun t ht => by
                      rcases List.mem_append.1 ht with h2 | h2
                      · exact h.ev t h2
                      · obtain rfl := List.mem_singleton.1 h2
                        exact ⟨by show 1 ≤ x.view; omega, by show x.view ≤ 1000; omega⟩⟩
                    obtain ⟨c, d⟩ := mbnd_learn h1 x.cert
                    split
                    · exact ⟨c.same rfl rfl rfl, d⟩
                    · exact ⟨c, d⟩
      · exact ⟨h, rfl⟩
theorem mbnd_ends {m : Mem} (h : MBnd m) (hi : Inv m) : MBnd m.ends.1 ∧ m.ends.1.proposed.length = m.proposed.length + m.ends.2.length ∧ m.ends.1.view = m.view ∧ m.ends.1.voted = m.voted := by
  cases hm : m.may with
  | false => rw [ends_no hm]; exact ⟨h, by simp, rfl, rfl⟩
  | true =>
    rw [ends_yes hm]
    have h1 : MBnd m.noted := by
      refine ⟨?_, ?_, h.bn, h.ev⟩
      · show (m.proposed ++ [m.view]).Nodup
        rw [List.nodup_append]
        refine ⟨h.pn, by simp, fun a ha c hc => ?_⟩
        simp only [List.mem_singleton] at hc
        subst hc
        intro e
        subst e
        unfold Mem.may at hm
        simp only [Bool.and_eq_true, Bool.not_eq_true'] at hm
        have := hm.1.2
        rw [List.contains_eq_mem, decide_eq_false_iff_not] at this
        exact this ha
      · intro v hv
        rcases List.mem_append.1 hv with h2 | h2
        · exact h.pv v h2
        · obtain rfl := List.mem_singleton.1 h2
          exact ⟨hi.v0, hi.v1⟩
    obtain ⟨a, b⟩ := mbnd_knows h1 m.next
    refine ⟨a, ?_, ?_, ?_⟩
    · rw [b]; simp [Mem.noted]
    · show (m.noted.knows m.next).view = m.view
      unfold Mem.knows; split <;> rfl
    · show (m.noted.knows m.next).voted = m.voted
      unfold Mem.knows; split <;> rfl
theorem mbnd_wait {m : Mem} (h : MBnd m) : MBnd m.wait.1 ∧ m.wait.1.proposed = m.proposed ∧ m.wait.1.voted = m.voted ∧ m.wait.1.view = m.view + m.wait.2.length := by
  unfold Mem.wait
  dsimp only
  split
  · exact ⟨h.same rfl rfl rfl, rfl, rfl, rfl⟩
  · exact ⟨h.same rfl rfl rfl, rfl, rfl, by simp⟩
/-- A list whose entries have one of so many keys, each key at most four times. -/
theorem len_keys {α : Type} (f : α → Int) : ∀ (S : List Int) (l : List α), (∀ t ∈ l, f t ∈ S) → (∀ v, (l.filter fun t => f t == v).length ≤ 4) → l.length ≤ 4 * S.length
  | [], l, h, _ => by
    cases l with
    | nil => simp
    | cons a r => exact absurd (h a (by simp)) (by simp)
  | v :: S, l, h, h4 => by
    have h1 := h4 v
    have h2 := len_keys f S (l.filter fun t => !(f t == v)) (fun t ht => by
      obtain ⟨a, b⟩ := List.mem_filter.1 ht
      rcases List.mem_cons.1 (h t a) with e | e
      · simp [e] at b
      · exact e) (fun u => by
      have := h4 u
      rw [List.filter_filter]
      refine Nat.le_trans ?_ this
      have hsub : (l.filter fun t => f t == u && !(f t == v)).Sublist (l.filter fun t => f t == u) := by
        rw [show (fun t => f t == u && !(f t == v)) = (fun t => (!(f t == v)) && (f t == u)) from funext fun t => Bool.and_comm _ _, ← List.filter_filter]
        exact List.filter_sublist
      exact hsub.length_le)
    have h3 : l.length = (l.filter fun t => f t == v).length + (l.filter fun t => !(f t == v)).length := by
      have : ∀ l : List α, l.length = (l.filter fun t => f t == v).length + (l.filter fun t => !(f t == v)).length := fun l => by
        induction l with
        | nil => rfl
        | cons a r ih =>
          by_cases ha : (f a == v) = true
          · simp only [List.filter_cons, ha]; simp; omega
          · simp only [Bool.not_eq_true] at ha
            simp only [List.filter_cons, ha]; simp; omega
      exact this l
    simp only [List.length_cons]
    omega
end Go.Proofs.YtkehpnobidendaaDoor
