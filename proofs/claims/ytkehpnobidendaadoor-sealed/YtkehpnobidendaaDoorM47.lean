/- parleykeep's awake: true, whatever the world: the plain run by the kernel. parleykeep's agree. parleykeep's Again and Sealed: the plain side: what is refused changes nothing; the plain runs by the kernel. No program in it. parleykeep's cluster: a message that is refused changes nothing; steady, where nothing has changed. The hash's step is one to one: other members, other seals; a seal that an odd number was put upon is another one. No program in it. parleykeep's Sealed: the plain side. No program in it. -/
import Derived.Test.YtkehpnobidendaaDoorM45
import Derived.Test.YtkehpnobidendaaDoorM46
import Derived.Deep.RegionHeld3
namespace Go.Proofs.YtkehpnobidendaaDoor
open Go.RowKit

/-! The plain run. -/
theorem awake2_ok : awake2.2 = true := by decide +kernel
theorem awake3_ok : awake3.2 = (40, true) := by decide +kernel
theorem awake_logs : ((awake3.1.w0.log.headD ⟨#[]⟩).toList == bOne.toList) = true ∧ ((awake3.1.w1.log.headD ⟨#[]⟩).toList == bOne.toList) = true ∧ ((awake3.1.w2.log.headD ⟨#[]⟩).toList == bOne.toList) = true ∧ ((awake3.1.w3.log.headD ⟨#[]⟩).toList == bOne.toList) = true := by decide +kernel
theorem awake_logn : awake3.1.w0.log.length ≠ 0 ∧ awake3.1.w1.log.length ≠ 0 ∧ awake3.1.w2.log.length ≠ 0 ∧ awake3.1.w3.log.length ≠ 0 := by decide +kernel
theorem awake_log (k : Nat) : ∃ s r, (awake3.1.was k).log = s :: r ∧ (s.toList == bOne.toList) = true := by
  have key : ∀ l : List ByteArray, l.length ≠ 0 → ((l.headD ⟨#[]⟩).toList == bOne.toList) = true → ∃ s r, l = s :: r ∧ (s.toList == bOne.toList) = true := fun l h1 h2 => by
    cases l with
    | nil => exact absurd rfl h1
    | cons s r => exact ⟨s, r, rfl, h2⟩
  unfold Clu.was
  split
  · exact key _ awake_logn.1 awake_logs.1
  · split
    · exact key _ awake_logn.2.1 awake_logs.2.1
    · split
      · exact key _ awake_logn.2.2.1 awake_logs.2.2.1
      · exact key _ awake_logn.2.2.2 awake_logs.2.2.2
theorem pick_small {k : Nat} (h : k < 4) : pickN (k : Int) 4 = k := by
  rcases (by omega : k = 0 ∨ k = 1 ∨ k = 2 ∨ k = 3) with rfl | rfl | rfl | rfl <;> decide
theorem allTick_step {K : Clu} {f k : Nat} : K.allTick (f + 1) k = if (K.ticks k).2 then (K.ticks k).1.allTick f (k + 1) else K.ticks k := rfl
/-- Where what a member had lies. -/
theorem KSit.wcells {w : World} {p : Nat} {A : Nat → Nat → Prop} {ps : List (Option Nat)} {K : Clu} (h : KSit w p A ps K) (k : Nat) (hk : k < 4) : ∃ a cap, w.cell? ⟨p, 5 + k * 4 + 3, none⟩ = some (.slice a (K.was k).log.length cap) ∧ Row w (A 0) 9 1 (.slice a (K.was k).log.length cap) (K.was k).log.length ((K.was k).log.flatMap scells) := by
  obtain ⟨vm, vl, vc, vv, l0, l1, l2, l3, vb, g1⟩ := h.k.ex
  rcases (by omega : k = 0 ∨ k = 1 ∨ k = 2 ∨ k = 3) with rfl | rfl | rfl | rfl
  · have hr : Row w (A 0) 9 1 l0 K.w0.log.length (K.w0.log.flatMap scells) := g1.row 4 _ _ _ rfl rfl rfl
    obtain ⟨am, cm, rfl⟩ := hr.isSlice
    exact ⟨am, cm, cell_at g1.box 8, hr⟩
  · have hr : Row w (A 0) 9 1 l1 K.w1.log.length (K.w1.log.flatMap scells) := g1.row 5 _ _ _ rfl rfl rfl
    obtain ⟨am, cm, rfl⟩ := hr.isSlice
    exact ⟨am, cm, cell_at g1.box 12, hr⟩
  · have hr : Row w (A 0) 9 1 l2 K.w2.log.length (K.w2.log.flatMap scells) := g1.row 6 _ _ _ rfl rfl rfl
    obtain ⟨am, cm, rfl⟩ := hr.isSlice
    exact ⟨am, cm, cell_at g1.box 16, hr⟩
  · have hr : Row w (A 0) 9 1 l3 K.w3.log.length (K.w3.log.flatMap scells) := g1.row 7 _ _ _ rfl rfl rfl
    obtain ⟨am, cm, rfl⟩ := hr.isSlice
    exact ⟨am, cm, cell_at g1.box 20, hr⟩
/-- All that the cluster is lies in new memory: what lay before lies as it lay. -/
theorem kbelow {w w1 w2 : World} {A : Nat → Nat → Prop} (hb : Below w.heap.size w w1) (hf : Fr (UA A) w1 w2) (hA : ∀ b, UA A b → w.heap.size ≤ b) : Below w.heap.size w w2 :=
  ⟨hf.os.trans hb.os, hf.tape.trans hb.tape, hf.output.trans hb.output, Nat.le_trans hb.size hf.size, fun b hb2 => (hf.block b (Nat.lt_of_lt_of_le hb2 hb.size) (fun h1 => by have := hA b h1; omega)).trans (hb.block b hb2)⟩
set_option maxRecDepth 100000 in
set_option maxHeartbeats 4000000 in
theorem kawake (w : World) (ht : Tab w) :
    Calls Tryd.prog 10 #[] w fun e w' => e = .returned (.bool true) ∧ Below w.heap.size w w' := by
  have HBG : Hid (Calls Tryd.prog 19 #[.int .i64 (-1), .int .i64 9] w fun e w' => KBegun w (-1) 9 e w') := kbegins w ht (-1) 9 (by decide) (by decide)
  go_enter Tryd.func10, Tryd.ntmps10
  go_upto_region 2 with (go_at_call 19; refine HBG.out.mono ?_; rintro e w1 ⟨p, A, ps, rfl, hs, hn, hb⟩; have HS : Hid (KSit w1 p A ps (Clu.begins (-1) 9)) := hs; have HN : Hid (∀ b, UA A b → w.heap.size ≤ b) := hn; have HB : Hid (Below w.heap.size w w1) := hb; clear hs hn hb)
  obtain ⟨g, off, cm, hgA, hc0, hci⟩ := HS.out.cells
  have hat : (Clu.begins (-1) 9).memAt 1 = some (Mem.new 1 9) := rfl
  obtain ⟨pm, hq, hpm⟩ := HS.out.some1 (i := 1) (by omega) hat
  have hc1 := hci 1 (by omega)
  rw [hq] at hc1
  dsimp only [mptr, Option.map] at hc1
  have HSU : Hid (Calls Tryd.prog 21 #[.pointer (some ⟨pm, 0, none⟩), .string ⟨#[111, 110, 101]⟩] w1 fun e w' => e = .returned (.int .i64 0) ∧ ∃ S', PMem w' pm S' ((Mem.new 1 9).submit bOne).1 ∧ Grow (A 2) w1 S' ∧ Fr (A 2) w1 w') := psubmit w1 pm (A 2) (Mem.new 1 9) hpm bOne (by decide) (by decide)
  have HPM : Hid (ps.getD 1 none = some pm) := hq
  have HK1 : Hid (KOk awake1 1) := submits_kok (begins_kok (-1) 9 (by decide) (by decide)) bOne
  have HE1 : Hid (awake1 = (Clu.begins (-1) 9).setMem 1 ((Mem.new 1 9).submit bOne).1) := rfl
  have HFL : Hid (awake3 = awake2.1.flows 0 40 ∧ awake2 = awake1.allTick 4 0) := ⟨rfl, rfl⟩
  have HA2 : Hid (awake2.2 = true) := awake2_ok
  have HA3 : Hid (awake3.2 = (40, true)) := awake3_ok
  have HLG : Hid (∀ k, ∃ s r, (awake3.1.was k).log = s :: r ∧ (s.toList == bOne.toList) = true) := awake_log
  have HK0 : Hid ((Clu.begins (-1) 9).mem.length = 4) := rfl
  clear hat hq hpm hci hgA HBG ht
  generalize awake3 = R3 at *
  generalize awake2 = R2 at *
  generalize awake1 = R1 at *
  generalize Clu.begins (-1) 9 = K0 at *
  generalize ((Mem.new 1 9).submit bOne).1 = m1 at *
  go_upto_region 5 with (go_at_call 21; refine HSU.out.mono ?_; rintro e w2 ⟨rfl, S2, hm2, hg2, hf2⟩; have HM2 : Hid (PMem w2 pm S2 m1 ∧ Grow (A 2) w1 S2 ∧ Fr (A 2) w1 w2) := ⟨hm2, hg2, hf2⟩; clear hm2 hg2 hf2)
  have HS1 : Hid (KSit w2 p (updA A 2 S2) ps R1) := by rw [HE1.out]; exact HS.out.turn HK0.out (i := 1) (by omega) HPM.out HM2.out.1 HM2.out.2.1 HM2.out.2.2
  have HG1 : Hid (Grow (UA A) w1 (UA (updA A 2 S2)) ∧ Fr (UA A) w1 w2) := ⟨grow_u (i := 2) HM2.out.2.1, fr_u (i := 2) (by omega) HM2.out.2.2⟩
  clear HS HE1 HM2 hc0 hc1 HSU HPM HK0
  go_wp2
  go_loopw [2, 4] (fun o kk wr => ∃ (k : Nat) (A1 : Nat → Nat → Prop) (K : Clu), k ≤ 4 ∧ o = .bool true ∧ kk = .int .i64 k ∧ Hid (KSit wr p A1 ps K ∧ Grow (UA A) w1 (UA A1) ∧ Fr (UA A) w1 wr) ∧ Hid (KOk K (1 + 2 * k)) ∧ Hid (R2 = K.allTick (4 - k) k)) (fun _ kk _ => 4 - (intOf kk).toNat)
  case atStart => exact ⟨0, _, R1, by omega, rfl, rfl, ⟨HS1.out, HG1.out.1, HG1.out.2⟩, HK1.out, HFL.out.2⟩
  case round =>
    clear HS1 HG1 HK1
    obtain ⟨k, A1, K, hk, rfl, rfl, hS, hO, hE⟩ := hrel
    have hk0 : (0 : Int) ≤ (k : Int) := by omega
    by_cases hk4 : k < 4
    · have hkI : (k : Int) < 4 := by omega
      have hst : (K.ticks k).2 = true ∧ R2 = (K.ticks k).1.allTick (4 - (k + 1)) (k + 1) := by
        have h1 := hE.out
        rw [show 4 - k = (4 - (k + 1)) + 1 by omega, allTick_step] at h1
        cases hb : (K.ticks k).2 with
        | true => rw [hb] at h1; exact ⟨rfl, h1⟩
        | false => rw [hb] at h1; have h2 := HA2.out; rw [h1] at h2; rw [show (if false = true then _ else K.ticks k) = K.ticks k from rfl, hb] at h2; cases h2
      have HH : Hid (Calls Tryd.prog 22 #[.pointer (some ⟨p, 0, none⟩), .agg #[.int .i64 1, .int .i64 k, .int .i64 0]] wr fun e w' => e = .returned (.bool true) ∧ KGoes wr w' p A1 ps (K.ticks k).1) := by
        have h1 := khappens1 wr p A1 ps K hS.out.1 _ hO.out (by omega) k 0 (by omega) (by omega)
        rw [pick_small hk4, hst.1] at h1
        exact h1
      have HO2 : Hid (KOk (K.ticks k).1 (1 + 2 * (k + 1))) := ticks_kok hO.out hk4
      have HE2 : Hid (R2 = (K.ticks k).1.allTick (4 - (k + 1)) (k + 1)) := hst.2
      clear hE hst
      generalize (K.ticks k).1 = K2 at *
      go_wp2_with (go_at_call 22; refine HH.out.mono ?_; rintro e w3 ⟨rfl, hg3⟩; have HG3 : Hid (KGoes wr w3 p A1 ps K2) := hg3; clear hg3)
      go_roundw
      case rel =>
        obtain ⟨A2, z1, z2⟩ := HG3.out.ex
        exact ⟨k + 1, A2, K2, by omega, rfl, by go_num, ⟨z1, hS.out.2.1.trans hS.out.2.2.size z2, hS.out.2.2.grow hS.out.2.1 HG3.out.fr⟩, HO2.out, HE2.out⟩
      case measure => simp [intOf]; omega
    · have hkI : ¬ (k : Int) < 4 := by omega
      have hke : k = 4 := by omega
      subst hke
      have hR2 : R2 = (K, true) := hE.out
      have HF : Hid (Calls Tryd.prog 23 #[.pointer (some ⟨p, 0, none⟩), .int .i64 0, .int .i64 40] wr fun e w' => e = .returned (.tuple #[.int .i64 40, .bool true]) ∧ KGoes wr w' p A1 ps R3.1) := by
        have h0 : K.flows 0 40 = R3 := by rw [HFL.out.1, hR2]
        have h1 := kflows wr p A1 ps K hS.out.1 _ hO.out 0 40 (by omega) (by omega)
        rw [h0, HA3.out] at h1
        exact h1.mono (fun e w' h => ⟨h.1, h.2.1⟩)
      clear hR2 hE HFL HA2 HA3 hO
      go_upto_region 10 with (go_at_call 23; refine HF.out.mono ?_; rintro e w3 ⟨rfl, hg3⟩; have HG3 : Hid (KGoes wr w3 p A1 ps R3.1) := hg3; clear hg3)
      have HBB : Hid (Below w.heap.size w w3) := kbelow HB.out (hS.out.2.2.grow hS.out.2.1 HG3.out.fr) HN.out
      obtain ⟨A3, hs3, _⟩ := HG3.out.ex
      have HS3 : Hid (KSit w3 p A3 ps R3.1) := hs3
      clear hs3 HG3 HF hS HB HN
      go_wp2
      go_loopw [7] (fun kk w' => ∃ (j : Nat), j ≤ 4 ∧ kk = .int .i64 j ∧ Hid (w' = w3)) (fun kk _ => 4 - (intOf kk).toNat)
      case atStart => exact ⟨0, by omega, rfl, rfl⟩
      case round =>
        obtain ⟨j, hj, rfl, hw3⟩ := hrel
        obtain rfl : wr = w3 := hw3.out
        have hj0 : (0 : Int) ≤ (j : Int) := by omega
        by_cases hj4 : j < 4
        · have hjI : (j : Int) < 4 := by omega
          obtain ⟨a, cap, hwc, hrow⟩ := HS3.out.wcells j hj4
          obtain ⟨s, r, hlog, hse⟩ := HLG.out j
          rw [hlog] at hwc hrow
          obtain ⟨gl, ol, rfl, _, hgl, hcp⟩ := hrow.place (by simp)
          have sl : ∀ x : ByteArray, (scells x).length = 1 := fun _ => rfl
          have hs0 := hrow.elem sl 0 0 (by simp) (by omega)
          have hs1 : wr.cell? ⟨gl, ol, none⟩ = some (.string s) := by simpa [scells] using hs0
          simp only [List.length_cons] at hwc
          have hrl : (0 : Int) < ((r.length + 1 : Nat) : Int) := by omega
          have hb1 : bOne.toList = [111, 110, 101] := by decide +kernel
          have hse2 : (s.toList == [111, 110, 101]) = true := by rw [← hb1]; exact hse
          have hrz : (((r.length : Nat) : Int) + 1 == 0) = false := by simp; omega
          clear hse hb1
          clear hlog hrow hs0 sl
          go_wp2
          go_roundw
          case rel => exact ⟨j + 1, by omega, by go_num, by first | exact trivial | exact rfl⟩
          case measure => simp [intOf]; omega
        · have hjI : ¬ (j : Int) < 4 := by omega
          go_wp2
          go_ret
          exact ⟨rfl, HBB.out⟩
end Go.Proofs.YtkehpnobidendaaDoor

namespace Go.Proofs.YtkehpnobidendaaDoor
open Go.RowKit

/-- Is one of two logs the beginning of the other? -/
def Clu.agr (K : Clu) (i k : Nat) : Bool := isPrefix (K.was i).log (K.was k).log || isPrefix (K.was k).log (K.was i).log
def Clu.agree (K : Clu) : Bool := (List.range 4).all fun i => (List.range i).all fun k => K.agr i k
theorem agree_yes {K : Clu} (h : ∀ i k, i < 4 → k < i → K.agr i k = true) : K.agree = true := by
  unfold Clu.agree
  rw [List.all_eq_true]
  intro i hi
  rw [List.all_eq_true]
  intro k hk
  exact h i k (by simpa using hi) (by simpa using hk)
theorem agree_no {K : Clu} {i k : Nat} (hi : i < 4) (hk : k < i) (h : K.agr i k = false) : K.agree = false := by
  unfold Clu.agree
  rw [List.all_eq_false]
  refine ⟨i, by simpa using hi, ?_⟩
  rw [Bool.not_eq_true, List.all_eq_false]
  exact ⟨k, by simpa using hk, by rw [h]; decide⟩
set_option maxRecDepth 100000 in
set_option maxHeartbeats 4000000 in
theorem kagree (w : World) (p : Nat) (A : Nat → Nat → Prop) (ps : List (Option Nat)) (K : Clu) (h : KSit w p A ps K) (hwl : ∀ k, (K.was k).log.length ≤ 1700000000000) :
    Calls Tryd.prog 24 #[.pointer (some ⟨p, 0, none⟩)] w fun e w' => e = .returned (.bool K.agree) ∧ Below w.heap.size w w' := by
  have HS : Hid (KSit w p A ps K) := h
  have HWL : Hid (∀ k, (K.was k).log.length ≤ 1700000000000) := hwl
  have hpl : p < w.heap.size := h.k.lt
  clear h hwl
  go_enter Tryd.func24, Tryd.ntmps24
  go_wp2
  go_loopw [3] (fun ii wr => ∃ (i : Nat), i ≤ 4 ∧ ii = .int .i64 i ∧ Hid (Below w.heap.size w wr) ∧ Hid (∀ a b, a < i → b < a → K.agr a b = true)) (fun ii _ => 4 - (intOf ii).toNat)
  case atStart => exact ⟨0, by omega, rfl, Below.refl _ _, fun a b h _ => by omega⟩
  case round =>
    obtain ⟨i, hi, rfl, hbw, hal⟩ := hrel
    have hi0 : (0 : Int) ≤ (i : Int) := by omega
    by_cases hi4 : i < 4
    rotate_left
    · have hiI : ¬ (i : Int) < 4 := by omega
      have HY : Hid (K.agree = true) := agree_yes (fun a b h1 h2 => hal.out a b (by omega) h2)
      go_wp2
      go_ret
      rw [HY.out]
      exact ⟨rfl, hbw.out⟩
    have hiI : (i : Int) < 4 := by omega
    go_wp2
    go_loopw [4] (fun kk w' => ∃ (k : Nat), k ≤ i ∧ kk = .int .i64 k ∧ Hid (Below w.heap.size w w') ∧ Hid (∀ b, b < k → K.agr i b = true)) (fun kk _ => 4 - (intOf kk).toNat)
    case atStart => exact ⟨0, by omega, rfl, hbw.out, fun b h => by omega⟩
    case round =>
      clear hbw
      obtain ⟨k, hk, rfl, hbk, hak⟩ := hrel
      have hk0 : (0 : Int) ≤ (k : Int) := by omega
      by_cases hki : k < i
      rotate_left
      · have hkI : ¬ (k : Int) < (i : Int) := by omega
        have HN : Hid (∀ a b, a < i + 1 → b < a → K.agr a b = true) := fun a b h1 h2 => by
          by_cases e : a = i
          · subst e; exact hak.out b (by omega)
          · exact hal.out a b (by omega) h2
        go_wp2
        go_roundw
        case rel => exact ⟨i + 1, by omega, by go_num, hbk.out, HN.out⟩
        case measure => simp [intOf]; omega
      have hkI : (k : Int) < (i : Int) := by omega
      have hk4I : (k : Int) < 4 := by omega
      obtain ⟨ai, ci, hci, hri⟩ := HS.out.wcells i hi4
      obtain ⟨ak, ck, hck, hrk⟩ := HS.out.wcells k (by omega)
      have HCE : Hid (∀ W, Below w.heap.size w W → W.cell? ⟨p, 5 + i * 4 + 3, none⟩ = some (.slice ai (K.was i).log.length ci) ∧ W.cell? ⟨p, 5 + k * 4 + 3, none⟩ = some (.slice ak (K.was k).log.length ck)) := fun W hW => ⟨(hW.cell (p := ⟨p, 5 + i * 4 + 3, none⟩) hpl).trans hci, (hW.cell (p := ⟨p, 5 + k * 4 + 3, none⟩) hpl).trans hck⟩
      have HP1 : Hid (∀ W, Below w.heap.size w W → Calls Tryd.prog 41 #[.slice ai (K.was i).log.length ci, .slice ak (K.was k).log.length ck] W fun e w' => e = .returned (.bool (isPrefix (K.was i).log (K.was k).log)) ∧ Below W.heap.size W w') := fun W hW => kprefix W _ _ _ _ _ _ (hri.below hW) (hrk.below hW) (HWL.out i)
      have HP2 : Hid (∀ W, Below w.heap.size w W → Calls Tryd.prog 41 #[.slice ak (K.was k).log.length ck, .slice ai (K.was i).log.length ci] W fun e w' => e = .returned (.bool (isPrefix (K.was k).log (K.was i).log)) ∧ Below W.heap.size W w') := fun W hW => kprefix W _ _ _ _ _ _ (hrk.below hW) (hri.below hW) (HWL.out k)
      have HAG : Hid (K.agr i k = (isPrefix (K.was i).log (K.was k).log || isPrefix (K.was k).log (K.was i).log)) := rfl
      clear hci hck hri hrk
      generalize isPrefix (K.was i).log (K.was k).log = q1 at HP1 HAG
      generalize isPrefix (K.was k).log (K.was i).log = q2 at HP2 HAG
      go_upto_region 7 with fail
      go_cut [5] (fun s w' => s = .bool q1 ∧ Hid (Below w.heap.size w w'))
      case first =>
        go_region_held3 (fun W => W.cell? ⟨p, 5 + i * 4 + 3, none⟩ = some (.slice ai (K.was i).log.length ci) ∧ W.cell? ⟨p, 5 + k * 4 + 3, none⟩ = some (.slice ak (K.was k).log.length ck))
          (first | (exact HCE.out _ (bnext hbk.out (Below.refl _ _).drew)) | (exact HCE.out _ hbk.out) | (exact HCE.out _ HB5.out))
          ((go_at_call 41; refine (HP1.out _ (bnext hbk.out (Below.refl _ _).drew)).mono ?_; rintro e w5 ⟨rfl, hb5⟩; have HB5 : Hid (Below w.heap.size w w5) := bnext (bnext hbk.out (Below.refl _ _).drew) hb5; clear hb5))
        all_goals (
          go_wp2
          go_meet
          case rel => exact ⟨rfl, HB5.out⟩)
      case rest =>
        obtain ⟨rfl, hbc⟩ := hcut
        clear hbk
        go_upto_region 8 with fail
        go_cut [6] (fun s w' => s = .bool q2 ∧ Hid (Below w.heap.size w w'))
        case first =>
          go_region_held3 (fun W => W.cell? ⟨p, 5 + i * 4 + 3, none⟩ = some (.slice ai (K.was i).log.length ci) ∧ W.cell? ⟨p, 5 + k * 4 + 3, none⟩ = some (.slice ak (K.was k).log.length ck))
            (first | (exact HCE.out _ (bnext hbc.out (Below.refl _ _).drew)) | (exact HCE.out _ hbc.out) | (exact HCE.out _ HB5.out))
            ((go_at_call 41; refine (HP2.out _ (bnext hbc.out (Below.refl _ _).drew)).mono ?_; rintro e w5 ⟨rfl, hb5⟩; have HB5 : Hid (Below w.heap.size w w5) := bnext (bnext hbc.out (Below.refl _ _).drew) hb5; clear hb5))
          all_goals (
            go_wp2
            go_meet
            case rel => exact ⟨rfl, HB5.out⟩)
        case rest =>
          obtain ⟨rfl, hbd⟩ := hcut
          clear hbc HP1 HP2
          cases hag : K.agr i k with
          | false =>
            have HX : Hid (K.agree = false) := agree_no hi4 hki hag
            have hq := HAG.out.symm.trans hag
            obtain ⟨rfl, rfl⟩ : q1 = false ∧ q2 = false := by simpa using hq
            clear hq hag
            go_wp2
            go_ret
            rw [HX.out]
            exact ⟨rfl, hbd.out⟩
          | true =>
            have HN : Hid (∀ b, b < k + 1 → K.agr i b = true) := fun b hb => by
              by_cases e : b = k
              · subst e; exact hag
              · exact hak.out b (by omega)
            have hq := HAG.out.symm.trans hag
            clear hag
            cases q1
            · obtain rfl : q2 = true := by simpa using hq
              clear hq
              go_wp2
              go_roundw
              case rel => exact ⟨k + 1, by omega, by go_num, hbd.out, HN.out⟩
              case measure => simp [intOf]; omega
            · clear hq
              go_wp2
              go_roundw
              case rel => exact ⟨k + 1, by omega, by go_num, hbd.out, HN.out⟩
              case measure => simp [intOf]; omega
end Go.Proofs.YtkehpnobidendaaDoor

namespace Go.Proofs.YtkehpnobidendaaDoor
open Go.RowKit

def ErrP (m : Mem) (r : Mem × List Ltr × Int) : Prop := r.2.2 ≠ 0 → r = (m, [], r.2.2)
def ErrV (m : Mem) (r : Mem × Int) : Prop := r.2 ≠ 0 → r = (m, r.2)
theorem ErrP.ite {m : Mem} {c : Prop} [Decidable c] {a b : Mem × List Ltr × Int} (ha : ErrP m a) (hb : ErrP m b) : ErrP m (if c then a else b) := by split <;> assumption
theorem ErrV.ite {m : Mem} {c : Prop} [Decidable c] {a b : Mem × Int} (ha : ErrV m a) (hb : ErrV m b) : ErrV m (if c then a else b) := by split <;> assumption
theorem ErrP.no (m : Mem) (k : Int) : ErrP m (m, [], k) := fun _ => rfl
theorem ErrV.no (m : Mem) (k : Int) : ErrV m (m, k) := fun _ => rfl
theorem proposal_err (m : Mem) (x : Msg) : ErrP m (m.proposal x) := by
  unfold Mem.proposal
  refine .ite (.no _ _) (.ite (.no _ _) ?_)
  cases m.block x.block.just.block with
  | none => exact .no _ _
  | some p => exact .ite (.no _ _) (.ite (.no _ _) (fun h => absurd rfl h))
theorem vote_err (m : Mem) (x : Msg) : ErrV m (m.vote x) := by
  unfold Mem.vote
  refine .ite (.no _ _) (.ite (.no _ _) ?_)
  cases m.block x.number with
  | none => exact .no _ _
  | some p => exact .ite (.no _ _) (.ite (.no _ _) (.ite (.no _ _) (.ite (fun h => absurd rfl h) (fun h => absurd rfl h))))
theorem enters1_err (m : Mem) (x : Msg) : ErrV m (m.enters1 x) := by
  unfold Mem.enters1
  refine .ite (.no _ _) (.ite (.no _ _) ?_)
  cases m.block x.cert.block with
  | none => exact .no _ _
  | some p => exact .ite (.no _ _) (.ite (.no _ _) (.ite (.no _ _) (fun h => absurd rfl h)))
theorem takes_err {m : Mem} {x : Msg} : (m.takes x).2.2 ≠ 0 → m.takes x = (m, [], (m.takes x).2.2) := by
  show ErrP m (m.takes x)
  unfold Mem.takes
  refine .ite (proposal_err m x) (.ite (fun h => ?_) (.ite (fun h => ?_) (.no _ _)))
  · have h1 : (m.vote x).1 = m := by rw [vote_err m x h]
    show ((m.vote x).1, _) = _
    rw [h1]
  · have h1 : (m.enters1 x).1 = m := by rw [enters1_err m x h]
    show ((m.enters1 x).1, _) = _
    rw [h1]
theorem handle_err {m : Mem} {x : Msg} (hm : m.may = false) (h : (m.handle x).2.2 ≠ 0) : m.handle x = (m, [], (m.handle x).2.2) := by
  have h0 : (m.takes x).2.2 ≠ 0 := h
  have h1 := takes_err h0
  have h2 : (m.takes x).1 = m := by rw [h1]
  have h3 : (m.takes x).2.1 = [] := by rw [h1]
  have h4 : m.ends = (m, []) := by unfold Mem.ends; rw [hm]; rfl
  unfold Mem.handle
  rw [h2, h3, h4]
  rfl
/-- A message that is refused by no form and no seal, with another seal. -/
theorem takes_seal {m : Mem} {x : Msg} (h1 : (m.takes x).2.2 ≠ 1) (h2 : (m.takes x).2.2 ≠ 2) {s : Int} (hs : s ≠ x.sl) : (m.takes { x with sl := s }).2.2 = 2 := by
  unfold Mem.takes at h1 h2 ⊢
  dsimp only at h1 h2 ⊢
  by_cases k1 : x.kind = 1
  · rw [if_pos k1] at h1 h2 ⊢
    unfold Mem.proposal at h1 h2 ⊢
    dsimp only at h1 h2 ⊢
    split at h1
    · exact absurd rfl h1
    · rename_i hf
      rw [if_neg hf] at h2 ⊢
      split at h2
      · exact absurd rfl h2
      · rename_i hg
        have hx : x.sl = sealOf x.fro 1 x.view x.block.num := Classical.byContradiction fun h => hg (.inl h)
        rw [if_pos (.inl (by rw [← hx]; exact hs))]
  · rw [if_neg k1] at h1 h2 ⊢
    by_cases k2 : x.kind = 2
    · rw [if_pos k2] at h1 h2 ⊢
      dsimp only at h1 h2 ⊢
      unfold Mem.vote at h1 h2 ⊢
      dsimp only at h1 h2 ⊢
      split at h1
      · exact absurd rfl h1
      · rename_i hf
        rw [if_neg hf] at h2 ⊢
        split at h2
        · exact absurd rfl h2
        · rename_i hg
          have hx : x.sl = sealOf x.fro 2 x.view x.number := Classical.byContradiction fun h => hg h
          rw [if_pos (by rw [← hx]; exact hs)]
    · rw [if_neg k2] at h1 h2 ⊢
      by_cases k3 : x.kind = 3
      · rw [if_pos k3] at h1 h2 ⊢
        dsimp only at h1 h2 ⊢
        unfold Mem.enters1 at h1 h2 ⊢
        dsimp only at h1 h2 ⊢
        split at h1
        · exact absurd rfl h1
        · rename_i hf
          rw [if_neg hf] at h2 ⊢
          split at h2
          · exact absurd rfl h2
          · rename_i hg
            have hx : x.sl = sealOf x.fro 3 x.view 0 := Classical.byContradiction fun h => hg (.inl h)
            rw [if_pos (.inl (by rw [← hx]; exact hs))]
      · rw [if_neg k3] at h1
        exact absurd rfl h1
/-- A proposal that is refused by no form and no seal, with other seals in its certificate, too few of them right. -/
theorem takes_just {m : Mem} {x : Msg} (k1 : x.kind = 1) (h1 : (m.takes x).2.2 ≠ 1) {b : Blk} (hv : b.view = x.block.view) (hc : b.cmd = x.block.cmd) (hj : b.just.view = x.block.just.view) (hg : b.just.good = false) : (m.takes { x with block := b, sl := sealOf x.fro 1 x.view b.num }).2.2 = 2 := by
  unfold Mem.takes at h1 ⊢
  dsimp only at h1 ⊢
  rw [if_pos k1] at h1 ⊢
  unfold Mem.proposal at h1 ⊢
  dsimp only at h1 ⊢
  split at h1
  · exact absurd rfl h1
  · rename_i hf
    rw [← hv, ← hc, ← hj] at hf
    rw [if_neg hf, if_pos (.inr hg)]
/-- What the member had is what it has. -/
def wasIs (K : Clu) (k : Nat) (m : Mem) : Bool := decide ((K.was k).view = m.view ∧ (K.was k).high = m.high.view ∧ (K.was k).locked = m.locked.view ∧ (K.was k).log = m.commands)
theorem wasIs_out {K : Clu} {k : Nat} {m : Mem} (h : wasIs K k m = true) : K.was k = m.sta := by
  unfold wasIs at h
  rw [decide_eq_true_eq] at h
  generalize K.was k = s at h
  obtain ⟨a, b, c, d⟩ := s
  obtain ⟨rfl, rfl, rfl, rfl⟩ := h
  rfl
def againAt (K : Clu) (l : Ltr) (k : Nat) : Bool :=
  if l.to = k ∨ l.to < 0 then match K.memAt k with
    | none => false
    | some m => (!m.may && wasIs K k m) && (((m.handle l.msg).2.2 == 4 || (m.handle l.msg).2.2 == 5) && m.sta.grows m.sta)
  else true
def againRun : Nat → Nat → Clu → Bool
  | 0, _, _ => true
  | f + 1, at1, K => K.agree && match K.letters[at1]? with
    | none => false
    | some l => ((K.goes l 4 0).2 && !(K.goes l 4 0).1.over) && (((List.range 4).all fun k => againAt (K.goes l 4 0).1 l k) && againRun f (at1 + 1) (K.goes l 4 0).1)
def ticked (p : Int) : Clu × Bool := (Clu.begins (-1) p).allTick 4 0
theorem again_run : againRun 60 0 (ticked 50).1 = true := by decide +kernel
def sealedAt (K : Clu) (at1 : Nat) : Bool := !K.over && match K.letters[at1]? with
  | none => false
  | some l => decide (l.to ≤ 3 ∧ -1 ≤ l.to) && (List.range 4).all fun k => if l.to = k ∨ l.to < 0 then match K.memAt k with
    | none => false
    | some m => (!m.may && wasIs K k m) && ((m.takes l.msg).2.2 != 1 && ((m.takes l.msg).2.2 != 2 && (m.sta.grows m.sta && (if l.msg.kind = 1 ∧ 1 < l.msg.view then decide (1 ≤ l.msg.block.just.view) && (List.range 4).all (fun i => sealOf i 2 l.msg.block.just.view l.msg.block.just.block != 0) else true))))
  else true
def sealedRun : Nat → Nat → Clu → Bool
  | 0, _, _ => true
  | f + 1, at1, K => (decide (at1 < 5) || sealedAt K at1) && match K.letters[at1]? with
    | none => false
    | some l => (K.goes l 4 0).2 && sealedRun f (at1 + 1) (K.goes l 4 0).1
theorem sealed_run : sealedRun 25 0 (ticked 50).1 = true := by decide +kernel
theorem ticked_ok : (ticked 50).2 = true := by decide +kernel
end Go.Proofs.YtkehpnobidendaaDoor

namespace Go.Proofs.YtkehpnobidendaaDoor
open Go.RowKit

theorem setMem_self {K : Clu} {k : Nat} {m : Mem} (h : K.memAt k = some m) : K.setMem k m = K := by
  have e : K.mem.set k (some m) = K.mem := by
    unfold Clu.memAt at h
    rw [List.getD_eq_getElem?_getD] at h
    cases hk : K.mem[k]? with
    | none => rw [hk] at h; cases h
    | some o =>
      rw [hk] at h
      have ho : o = some m := h
      subst ho
      obtain ⟨h1, h2⟩ := List.getElem?_eq_some_iff.1 hk
      rw [← h2, List.set_getElem_self]
  unfold Clu.setMem
  rw [e]
theorem setWas_self {K : Clu} {k : Nat} {s : Sta} (h : K.was k = s) : K.setWas k s = K := by
  subst h
  unfold Clu.setWas Clu.was
  split
  · rfl
  · split
    · rfl
    · split <;> rfl
/-- A message that is refused. -/
theorem krefused {w : World} {p pm : Nat} {A : Nat → Nat → Prop} {ps : List (Option Nat)} {K : Clu} {n : Nat} (h : KSit w p A ps K) (ok : KOk K n) (hn : n ≤ 1600000000) {k : Nat} (hk : k < 4) (hp : ps.getD k none = some pm) {m : Mem} (hm : K.memAt k = some m) {x : Msg} (hx : x.Ok) (hy : m.may = false) (he : (m.handle x).2.2 ≠ 0) :
    Calls Tryd.prog 25 #[.pointer (some ⟨pm, 0, none⟩), .agg x.cells.toArray] w fun e w' => ∃ a cap, e = .returned (.tuple #[.slice a 0 cap, .int .i64 (m.handle x).2.2]) ∧ KGoes w w' p A ps K ∧ Fr (A (k + 1)) w w' := by
  obtain ⟨pm', hq, hpm⟩ := h.some1 hk hm
  rw [hp] at hq
  obtain rfl := Option.some.inj hq
  have hmo := ok.at' hm
  have e1 := handle_err hy he
  refine (phandle w pm (A (k + 1)) m hpm hmo.iv hmo.i2 x hx (hmo.small (by omega))).mono ?_
  rintro e w' ⟨a, cap, he2, hg⟩
  have e2 : (m.handle x).2.1 = [] := by rw [e1]
  have e3 : (m.handle x).1 = m := by rw [e1]
  rw [e2] at he2 hg
  rw [e3] at hg
  obtain ⟨S', h1, h2, _⟩ := hg.ex
  refine ⟨a, cap, he2, ⟨⟨updA A (k + 1) S', ?_, grow_u (i := k + 1) h2⟩, fr_u (i := k + 1) (by omega) hg.fr⟩, hg.fr⟩
  have := h.turn ok.ml hk hp h1 h2 hg.fr
  rw [setMem_self hm] at this
  exact this
/-- steady, where what the member had is what it has. -/
theorem ksteady_same {w : World} {p : Nat} {A : Nat → Nat → Prop} {ps : List (Option Nat)} {K : Clu} {n : Nat} (h : KSit w p A ps K) (ok : KOk K n) (hn : n ≤ 1600000000) {k : Nat} (hk : k < 4) {m : Mem} (hm : K.memAt k = some m) (hw : K.was k = m.sta) (hg : m.sta.grows m.sta = true) :
    Calls Tryd.prog 26 #[.pointer (some ⟨p, 0, none⟩), .int .i64 k] w fun e w' => e = .returned (.bool true) ∧ KGoes w w' p A ps K := by
  obtain ⟨pm, hq, hpm⟩ := h.some1 hk hm
  have hmo := ok.at' hm
  have hl := log_len hmo.iv
  have hb := hmo.b
  have hwl := ok.wl k
  refine (ksteady w p (A 0) ps K h.k k hk pm (A (k + 1)) m h.l ?_ hpm (by omega) hmo.lgk (by omega)).mono ?_
  · rw [List.getD_eq_getElem?_getD] at hq
    have hk4 : k < ps.length := by have := h.l; omega
    rw [List.getElem?_eq_getElem hk4] at hq ⊢
    exact congrArg some hq
  · rintro e w' ⟨he, S', h1, h2, h3⟩
    rw [hw, hg] at he
    rw [setWas_self hw] at h1
    exact ⟨he, ⟨⟨updA A 0 S', h.clu h1 rfl h2 h3, grow_u (i := 0) h2⟩, fr_u (i := 0) (by omega) h3⟩⟩
end Go.Proofs.YtkehpnobidendaaDoor

namespace Go.Proofs.YtkehpnobidendaaDoor
open Go.RowKit

theorem mul_back (z : Int) : ((z * 1099511628211) % 18446744073709551616 * 14886173955864302971) % 18446744073709551616 = z % 18446744073709551616 := by
  have h1 : (z * 1099511628211 * 14886173955864302971) % 18446744073709551616 = ((z * 1099511628211) % 18446744073709551616 * 14886173955864302971) % 18446744073709551616 := by
    rw [Int.mul_emod (z * 1099511628211) 14886173955864302971, show (14886173955864302971 : Int) % 18446744073709551616 = 14886173955864302971 from by decide]
  rw [← h1, Int.mul_assoc, show (1099511628211 * 14886173955864302971 : Int) = 1 + 18446744073709551616 * 887285111055 from by decide, Int.mul_add, Int.mul_one, Int.mul_left_comm, Int.add_mul_emod_self_left]
theorem mul_inj {x y : Int} (hx : 0 ≤ x ∧ x < 18446744073709551616) (hy : 0 ≤ y ∧ y < 18446744073709551616) (h : (x * 1099511628211) % 18446744073709551616 = (y * 1099511628211) % 18446744073709551616) : x = y := by
  have h1 := mul_back x
  have h2 := mul_back y
  rw [h, h2] at h1
  rw [Int.emod_eq_of_lt hx.1 hx.2, Int.emod_eq_of_lt hy.1 hy.2] at h1
  exact h1.symm
theorem wrap_u64 (x : Int) : IntKind.u64.wrap x = x % 18446744073709551616 := by
  unfold IntKind.wrap
  simp only [show IntKind.u64.signed = false from rfl, show IntKind.u64.bits = 64 from rfl]
  rfl
theorem xor_eq (x y : Int) : bits BinOp.xor IntKind.u64 x y = ((BitVec.ofInt 64 x ^^^ BitVec.ofInt 64 y).toNat : Int) := by
  have h : bits BinOp.xor IntKind.u64 x y = IntKind.u64.wrap ((BitVec.ofInt 64 x ^^^ BitVec.ofInt 64 y).toNat : Int) := rfl
  rw [h, wrap_u64]
  have := (BitVec.ofInt 64 x ^^^ BitVec.ofInt 64 y).isLt
  omega
theorem ofInt_inj {x y : Int} (hx : 0 ≤ x ∧ x < 18446744073709551616) (hy : 0 ≤ y ∧ y < 18446744073709551616) (h : BitVec.ofInt 64 x = BitVec.ofInt 64 y) : x = y := by
  have h1 := congrArg BitVec.toNat h
  simp only [BitVec.toNat_ofInt] at h1
  omega
theorem xor_back (a b c : BitVec 64) (h : a ^^^ c = b ^^^ c) : a = b := by
  have := congrArg (· ^^^ c) h
  simpa [BitVec.xor_assoc] using this
theorem bv_range (a : BitVec 64) : 0 ≤ (a.toNat : Int) ∧ (a.toNat : Int) < 18446744073709551616 := by have := a.isLt; omega
theorem hstep_inj {x y : Int} (c : UInt8) (hx : 0 ≤ x ∧ x < 18446744073709551616) (hy : 0 ≤ y ∧ y < 18446744073709551616) (h : hstep x c = hstep y c) : x = y := by
  unfold hstep at h
  generalize IntKind.u64.wrap (c.toNat : Int) = d at h
  rw [xor_eq, xor_eq, wrap_u64, wrap_u64] at h
  have h1 := mul_inj (bv_range _) (bv_range _) h
  have h2 : BitVec.ofInt 64 x ^^^ BitVec.ofInt 64 d = BitVec.ofInt 64 y ^^^ BitVec.ofInt 64 d := BitVec.eq_of_toNat_eq (Int.ofNat.inj h1)
  exact ofInt_inj hx hy (xor_back _ _ _ h2)
theorem hstep_range (x : Int) (c : UInt8) : 0 ≤ hstep x c ∧ hstep x c < 18446744073709551616 := wrap_u64_range _
theorem fold_inj : ∀ (l : List UInt8) {x y : Int}, (0 ≤ x ∧ x < 18446744073709551616) → (0 ≤ y ∧ y < 18446744073709551616) → l.foldl hstep x = l.foldl hstep y → x = y
  | [], _, _, _, _, h => h
  | c :: r, _, _, hx, hy, h => hstep_inj c hx hy (fold_inj r (hstep_range _ c) (hstep_range _ c) h)
/-- Two members' seals of one vote differ. -/
theorem seal_ne (v : Int) (u : Nat) : sealOf 1 2 v u ≠ sealOf 2 2 v u := by
  intro h
  have e1 : Lib.itoa 1 = [49] := by decide +kernel
  have e2 : Lib.itoa 2 = [50] := by decide +kernel
  unfold sealOf fnv sealText at h
  rw [e1, e2] at h
  simp only [List.foldl_cons, List.cons_append, List.nil_append] at h
  have h1 := fold_inj _ (hstep_range _ _) (hstep_range _ _) h
  exact absurd h1 (by decide +kernel)
/-- An odd number put upon a seal makes another one. -/
theorem xor_ne (s off : Int) (hs : 0 ≤ s ∧ s < 18446744073709551616) : bits BinOp.xor IntKind.u64 s (bits BinOp.or IntKind.u64 off 1) ≠ s := by
  rw [xor_eq]
  intro h
  have h1 : (BitVec.ofInt 64 s ^^^ BitVec.ofInt 64 (bits BinOp.or IntKind.u64 off 1)) = BitVec.ofInt 64 s := by
    apply BitVec.eq_of_toNat_eq
    rw [BitVec.toNat_ofInt]
    omega
  have h2 : BitVec.ofInt 64 (bits BinOp.or IntKind.u64 off 1) = 0#64 := by
    have := congrArg (BitVec.ofInt 64 s ^^^ ·) h1
    simpa [← BitVec.xor_assoc] using this
  have h3 : bits BinOp.or IntKind.u64 off 1 = ((BitVec.ofInt 64 off ||| BitVec.ofInt 64 1).toNat : Int) := by
    have h : bits BinOp.or IntKind.u64 off 1 = IntKind.u64.wrap ((BitVec.ofInt 64 off ||| BitVec.ofInt 64 1).toNat : Int) := rfl
    rw [h, wrap_u64]
    have := (BitVec.ofInt 64 off ||| BitVec.ofInt 64 1).isLt
    omega
  rw [h3] at h2
  have h4 : BitVec.ofInt 64 off ||| BitVec.ofInt 64 1 = 0#64 := by
    have e : BitVec.ofInt 64 (((BitVec.ofInt 64 off ||| BitVec.ofInt 64 1).toNat : Int)) = BitVec.ofInt 64 off ||| BitVec.ofInt 64 1 := by
      apply BitVec.eq_of_toNat_eq
      rw [BitVec.toNat_ofInt]
      have := (BitVec.ofInt 64 off ||| BitVec.ofInt 64 1).isLt
      omega
    rw [← e]; exact h2
  have h5 := congrArg (fun b : BitVec 64 => b.getLsbD 0) h4
  simp at h5
end Go.Proofs.YtkehpnobidendaaDoor

namespace Go.Proofs.YtkehpnobidendaaDoor
open Go.RowKit

/-- What is asked of the letter that comes next, and of whom it is for. -/
def sealAt (K : Clu) (at1 : Nat) : Bool := !K.over && match K.letters[at1]? with
  | none => false
  | some l => decide (l.to ≤ 3 ∧ 0 ≤ l.msg.sl ∧ l.msg.sl < 18446744073709551616) && (List.range 4).all fun k => if l.to = k ∨ l.to < 0 then match K.memAt k with
    | none => false
    | some m => (!m.may && wasIs K k m) && ((m.takes l.msg).2.2 != 1 && ((m.takes l.msg).2.2 != 2 && (m.sta.grows m.sta && (if l.msg.kind = 1 ∧ 1 < l.msg.view then decide (1 ≤ l.msg.block.just.view) && (List.range 4).all (fun i => sealOf i 2 l.msg.block.just.view l.msg.block.just.block != 0) else true))))
  else true
def sealRun : Nat → Nat → Clu → Bool
  | 0, _, _ => true
  | f + 1, at1, K => (decide (at1 < 5) || sealAt K at1) && match K.letters[at1]? with
    | none => false
    | some l => (K.goes l 4 0).2 && sealRun f (at1 + 1) (K.goes l 4 0).1
theorem seal_run : sealRun 25 0 (ticked 50).1 = true := by decide +kernel
theorem sealRun_flows : ∀ (f at1 : Nat) (K : Clu), sealRun f at1 K = true → ∀ j, j < f → ∃ K', K.flows at1 j = (K', at1 + j, true) ∧ (5 ≤ at1 + j → sealAt K' (at1 + j) = true)
  | 0, _, _, _, _, hj => by omega
  | f + 1, at1, K, h, j, hj => by
    unfold sealRun at h
    rw [Bool.and_eq_true, Bool.or_eq_true, decide_eq_true_eq] at h
    obtain ⟨h1, h2⟩ := h
    cases j with
    | zero => exact ⟨K, rfl, fun hh => h1.resolve_left (by omega)⟩
    | succ j =>
      cases hl : K.letters[at1]? with
      | none => rw [hl] at h2; cases h2
      | some l =>
        rw [hl] at h2
        rw [Bool.and_eq_true] at h2
        obtain ⟨K', e1, e2⟩ := sealRun_flows f (at1 + 1) _ h2.2 j (by omega)
        refine ⟨K', ?_, fun hh => by have := e2 (by omega); rw [show at1 + (j + 1) = at1 + 1 + j by omega]; exact this⟩
        rw [Clu.flows, hl]
        show (if (K.goes l 4 0).2 then _ else _) = _
        rw [if_pos h2.1, e1, show at1 + 1 + j = at1 + (j + 1) by omega]
/-- All that the walk asks of the plain run. -/
structure SealOut (K : Clu) (i : Nat) (hl : i < K.letters.length) : Prop where
  ov : K.over = false
  to3 : K.letters[i].to ≤ 3
  sl : 0 ≤ K.letters[i].msg.sl ∧ K.letters[i].msg.sl < 18446744073709551616
  ms : ∀ k : Nat, k < 4 → (K.letters[i].to = (k : Int) ∨ K.letters[i].to < 0) → ∃ m, K.memAt k = some m ∧ m.may = false ∧ K.was k = m.sta ∧ m.sta.grows m.sta = true ∧ (m.takes K.letters[i].msg).2.2 ≠ 1 ∧ (m.takes K.letters[i].msg).2.2 ≠ 2 ∧
    (K.letters[i].msg.kind = 1 ∧ 1 < K.letters[i].msg.view → 1 ≤ K.letters[i].msg.block.just.view ∧ ∀ j : Nat, j < 4 → sealOf j 2 K.letters[i].msg.block.just.view K.letters[i].msg.block.just.block ≠ 0)
theorem sealAt_out {K : Clu} {i : Nat} (h : sealAt K i = true) : ∃ hl : i < K.letters.length, SealOut K i hl := by
  unfold sealAt at h
  rw [Bool.and_eq_true] at h
  obtain ⟨h1, h2⟩ := h
  cases hl : K.letters[i]? with
  | none => rw [hl] at h2; cases h2
  | some l =>
    rw [hl] at h2
    obtain ⟨hlt, hle⟩ := List.getElem?_eq_some_iff.1 hl
    simp only [Bool.and_eq_true, decide_eq_true_eq] at h2
    obtain ⟨h3, h4⟩ := h2
    refine ⟨hlt, ⟨by simpa using h1, by rw [hle]; exact h3.1, by rw [hle]; exact h3.2, fun k hk hto => ?_⟩⟩
    rw [List.all_eq_true] at h4
    have h5 := h4 k (by simpa using hk)
    rw [hle] at hto ⊢
    rw [if_pos hto] at h5
    cases hm : K.memAt k with
    | none => rw [hm] at h5; cases h5
    | some m =>
      rw [hm] at h5
      simp only [Bool.and_eq_true, Bool.not_eq_true', bne_iff_ne, ne_eq] at h5
      obtain ⟨⟨a1, a2⟩, a3, a4, a5, a6⟩ := h5
      refine ⟨m, rfl, a1, wasIs_out a2, a5, a3, a4, fun hk1 => ?_⟩
      rw [if_pos hk1, Bool.and_eq_true, decide_eq_true_eq, List.all_eq_true] at a6
      refine ⟨a6.1, fun j hj => ?_⟩
      have := a6.2 j (by simpa using hj)
      simpa using this
/-- Another seal: refused. -/
theorem sealed_other {m : Mem} {x : Msg} (h1 : (m.takes x).2.2 ≠ 1) (h2 : (m.takes x).2.2 ≠ 2) {s : Int} (hs : s ≠ x.sl) : (m.handle { x with sl := s }).2.2 = 2 := takes_seal h1 h2 hs
theorem good_few {v : Int} {b : Nat} {s0 s1 s2 s3 : Int} (hv : 1 ≤ v) (a c : Nat) (h : ∀ j : Nat, j < 4 → j ≠ a → j ≠ c → (if j = 0 then s0 else if j = 1 then s1 else if j = 2 then s2 else s3) ≠ sealOf j 2 v b) : goodB v b s0 s1 s2 s3 = false := by
  have hf : firstB v b s0 s1 s2 s3 = false := by
    unfold firstB
    have : (v == 0) = false := beq_eq_false_iff_ne.2 (by omega)
    rw [this]; rfl
  rw [good_not hf]
  have key : ∀ j s, hit v b j s ≤ 1 := fun j s => by unfold hit; split <;> omega
  have k0 := key 0 s0; have k1 := key 1 s1; have k2 := key 2 s2; have k3 := key 3 s3
  have z : ∀ (j : Nat) (s : Int), s ≠ sealOf j 2 v b → hit v b (j : Int) s = 0 := fun j s hs => hit_no (beq_eq_false_iff_ne.2 hs)
  have z0 : 0 ≠ a → 0 ≠ c → hit v b 0 s0 = 0 := fun h1 h2 => z 0 s0 (h 0 (by omega) h1 h2)
  have z1 : 1 ≠ a → 1 ≠ c → hit v b 1 s1 = 0 := fun h1 h2 => z 1 s1 (h 1 (by omega) h1 h2)
  have z2 : 2 ≠ a → 2 ≠ c → hit v b 2 s2 = 0 := fun h1 h2 => z 2 s2 (h 2 (by omega) h1 h2)
  have z3 : 3 ≠ a → 3 ≠ c → hit v b 3 s3 = 0 := fun h1 h2 => z 3 s3 (h 3 (by omega) h1 h2)
  have : cnt v b s0 s1 s2 s3 4 ≤ 2 := by
    show hit v b 0 s0 + hit v b 1 s1 + hit v b 2 s2 + hit v b 3 s3 ≤ 2
    by_cases a0 : 0 = a
    · by_cases c1 : 1 = c
      · have := z2 (by omega) (by omega); have := z3 (by omega) (by omega); omega
      · by_cases c2 : 2 = c
        · have := z1 (by omega) (by omega); have := z3 (by omega) (by omega); omega
        · have := z1 (by omega) (by omega); have := z2 (by omega) (by omega); omega
    · by_cases c0 : 0 = c
      · by_cases a1 : 1 = a
        · have := z2 (by omega) (by omega); have := z3 (by omega) (by omega); omega
        · by_cases a2 : 2 = a
          · have := z1 (by omega) (by omega); have := z3 (by omega) (by omega); omega
          · have := z1 (by omega) (by omega); have := z2 (by omega) (by omega); omega
      · have h0 := z0 a0 c0
        by_cases a1 : 1 = a
        · by_cases c2 : 2 = c
          · have := z3 (by omega) (by omega); omega
          · have := z2 (by omega) (by omega); omega
        · by_cases c1 : 1 = c
          · by_cases a2 : 2 = a
            · have := z3 (by omega) (by omega); omega
            · have := z2 (by omega) (by omega); omega
          · have := z1 a1 c1; omega
  exact decide_eq_false (by omega)
/-- Too few right seals in its certificate: refused. -/
theorem sealed_just {m : Mem} {x : Msg} (k1 : x.kind = 1) (h1 : (m.takes x).2.2 ≠ 1) (hv : 1 ≤ x.block.just.view) (a c : Nat) (s0 s1 s2 s3 : Int)
    (h : ∀ j : Nat, j < 4 → j ≠ a → j ≠ c → (if j = 0 then s0 else if j = 1 then s1 else if j = 2 then s2 else s3) ≠ sealOf j 2 x.block.just.view x.block.just.block) :
    (m.handle { x with block := ⟨x.block.view, ⟨x.block.just.view, x.block.just.block, s0, s1, s2, s3⟩, x.block.cmd⟩, sl := sealOf x.fro 1 x.view x.block.num }).2.2 = 2 :=
  takes_just (b := ⟨x.block.view, ⟨x.block.just.view, x.block.just.block, s0, s1, s2, s3⟩, x.block.cmd⟩) k1 h1 rfl rfl rfl (good_few hv a c h)
end Go.Proofs.YtkehpnobidendaaDoor
