/- parleykeep's awake: true, whatever the world: the plain run by the kernel. parleykeep's agree. parleykeep's Again and Sealed: the plain side: what is refused changes nothing; the plain runs by the kernel. No program in it. parleykeep's cluster: a message that is refused changes nothing; steady, where nothing has changed. parleykeep's Recovers: the plain side. No program in it. parleykeep's Recovers: true, whatever the input. -/
import Derived.Test.YtkehpnobidendaaDoorM45
import Derived.Test.YtkehpnobidendaaDoorM46
import Derived.Deep.RegionHeld3
namespace Go.Proofs.YtkehpnobidendaaDoor
open Go.RowKit

/-! The plain run. -/
theorem awake2_ok : awake2.2 = true := by decide +kernel
theorem awake3_ok : awake3.2 = (40, true) := by decide +kernel
theorem awake_logs : ((awake3.1.w0.log.headD ⟨#[]⟩).toList == bOne.toList) = true ∧ ((awake3.1.w1.log.headD ⟨#[]⟩).toList == bOne.toList) = true ∧ ((awake3.1.w2.log.headD ⟨#[]⟩).toList == bOne.toList) = true ∧ ((awake3.1.w3.log.headD ⟨#[]⟩).toList == bOne.toList) = true := by decide +kernel
theorem awake_logn : awake3.1.w0.log.length ≠ 0 ∧ awake3.1.w1.log.length ≠ 0 ∧ awake3.1.w2.log.length ≠ 0 ∧ awake3.1.w3.log.length ≠ 0 := by decide +kernel
theorem awake_log (k : Nat) : ∃ s r, (awake3.1.was k).log = s :: r ∧ (s.toList == bOne.toList) = true := by
  have key : ∀ l : List ByteArray, l.length ≠ 0 → ((l.headD ⟨#[]⟩).toList == bOne.toList) = true → ∃ s r, l = s :: r ∧ (s.toList == bOne.toList) = true := fun l h1 h2 => by
    cases l with
    | nil => exact absurd rfl h1
    | cons s r => exact ⟨s, r, rfl, h2⟩
  unfold Clu.was
  split
  · exact key _ awake_logn.1 awake_logs.1
  · split
    · exact key _ awake_logn.2.1 awake_logs.2.1
    · split
      · exact key _ awake_logn.2.2.1 awake_logs.2.2.1
      · exact key _ awake_logn.2.2.2 awake_logs.2.2.2
theorem pick_small {k : Nat} (h : k < 4) : pickN (k : Int) 4 = k := by
  rcases (by omega : k = 0 ∨ k = 1 ∨ k = 2 ∨ k = 3) with rfl | rfl | rfl | rfl <;> decide
theorem allTick_step {K : Clu} {f k : Nat} : K.allTick (f + 1) k = if (K.ticks k).2 then (K.ticks k).1.allTick f (k + 1) else K.ticks k := rfl
/-- Where what a member had lies. -/
theorem KSit.wcells {w : World} {p : Nat} {A : Nat → Nat → Prop} {ps : List (Option Nat)} {K : Clu} (h : KSit w p A ps K) (k : Nat) (hk : k < 4) : ∃ a cap, w.cell? ⟨p, 5 + k * 4 + 3, none⟩ = some (.slice a (K.was k).log.length cap) ∧ Row w (A 0) 9 1 (.slice a (K.was k).log.length cap) (K.was k).log.length ((K.was k).log.flatMap scells) := by
  obtain ⟨vm, vl, vc, vv, l0, l1, l2, l3, vb, g1⟩ := h.k.ex
  rcases (by omega : k = 0 ∨ k = 1 ∨ k = 2 ∨ k = 3) with rfl | rfl | rfl | rfl
  · have hr : Row w (A 0) 9 1 l0 K.w0.log.length (K.w0.log.flatMap scells) := g1.row 4 _ _ _ rfl rfl rfl
    obtain ⟨am, cm, rfl⟩ := hr.isSlice
    exact ⟨am, cm, cell_at g1.box 8, hr⟩
  · have hr : Row w (A 0) 9 1 l1 K.w1.log.length (K.w1.log.flatMap scells) := g1.row 5 _ _ _ rfl rfl rfl
    obtain ⟨am, cm, rfl⟩ := hr.isSlice
    exact ⟨am, cm, cell_at g1.box 12, hr⟩
  · have hr : Row w (A 0) 9 1 l2 K.w2.log.length (K.w2.log.flatMap scells) := g1.row 6 _ _ _ rfl rfl rfl
    obtain ⟨am, cm, rfl⟩ := hr.isSlice
    exact ⟨am, cm, cell_at g1.box 16, hr⟩
  · have hr : Row w (A 0) 9 1 l3 K.w3.log.length (K.w3.log.flatMap scells) := g1.row 7 _ _ _ rfl rfl rfl
    obtain ⟨am, cm, rfl⟩ := hr.isSlice
    exact ⟨am, cm, cell_at g1.box 20, hr⟩
/-- All that the cluster is lies in new memory: what lay before lies as it lay. -/
theorem kbelow {w w1 w2 : World} {A : Nat → Nat → Prop} (hb : Below w.heap.size w w1) (hf : Fr (UA A) w1 w2) (hA : ∀ b, UA A b → w.heap.size ≤ b) : Below w.heap.size w w2 :=
  ⟨hf.os.trans hb.os, hf.tape.trans hb.tape, hf.output.trans hb.output, Nat.le_trans hb.size hf.size, fun b hb2 => (hf.block b (Nat.lt_of_lt_of_le hb2 hb.size) (fun h1 => by have := hA b h1; omega)).trans (hb.block b hb2)⟩
set_option maxRecDepth 100000 in
set_option maxHeartbeats 4000000 in
theorem kawake (w : World) (ht : Tab w) :
    Calls Tryd.prog 10 #[] w fun e w' => e = .returned (.bool true) ∧ Below w.heap.size w w' := by
  have HBG : Hid (Calls Tryd.prog 19 #[.int .i64 (-1), .int .i64 9] w fun e w' => KBegun w (-1) 9 e w') := kbegins w ht (-1) 9 (by decide) (by decide)
  go_enter Tryd.func10, Tryd.ntmps10
  go_upto_region 2 with (go_at_call 19; refine HBG.out.mono ?_; rintro e w1 ⟨p, A, ps, rfl, hs, hn, hb⟩; have HS : Hid (KSit w1 p A ps (Clu.begins (-1) 9)) := hs; have HN : Hid (∀ b, UA A b → w.heap.size ≤ b) := hn; have HB : Hid (Below w.heap.size w w1) := hb; clear hs hn hb)
  obtain ⟨g, off, cm, hgA, hc0, hci⟩ := HS.out.cells
  have hat : (Clu.begins (-1) 9).memAt 1 = some (Mem.new 1 9) := rfl
  obtain ⟨pm, hq, hpm⟩ := HS.out.some1 (i := 1) (by omega) hat
  have hc1 := hci 1 (by omega)
  rw [hq] at hc1
  dsimp only [mptr, Option.map] at hc1
  have HSU : Hid (Calls Tryd.prog 21 #[.pointer (some ⟨pm, 0, none⟩), .string ⟨#[111, 110, 101]⟩] w1 fun e w' => e = .returned (.int .i64 0) ∧ ∃ S', PMem w' pm S' ((Mem.new 1 9).submit bOne).1 ∧ Grow (A 2) w1 S' ∧ Fr (A 2) w1 w') := psubmit w1 pm (A 2) (Mem.new 1 9) hpm bOne (by decide) (by decide)
  have HPM : Hid (ps.getD 1 none = some pm) := hq
  have HK1 : Hid (KOk awake1 1) := submits_kok (begins_kok (-1) 9 (by decide) (by decide)) bOne
  have HE1 : Hid (awake1 = (Clu.begins (-1) 9).setMem 1 ((Mem.new 1 9).submit bOne).1) := rfl
  have HFL : Hid (awake3 = awake2.1.flows 0 40 ∧ awake2 = awake1.allTick 4 0) := ⟨rfl, rfl⟩
  have HA2 : Hid (awake2.2 = true) := awake2_ok
  have HA3 : Hid (awake3.2 = (40, true)) := awake3_ok
  have HLG : Hid (∀ k, ∃ s r, (awake3.1.was k).log = s :: r ∧ (s.toList == bOne.toList) = true) := awake_log
  have HK0 : Hid ((Clu.begins (-1) 9).mem.length = 4) := rfl
  clear hat hq hpm hci hgA HBG ht
  generalize awake3 = R3 at *
  generalize awake2 = R2 at *
  generalize awake1 = R1 at *
  generalize Clu.begins (-1) 9 = K0 at *
  generalize ((Mem.new 1 9).submit bOne).1 = m1 at *
  go_upto_region 5 with (go_at_call 21; refine HSU.out.mono ?_; rintro e w2 ⟨rfl, S2, hm2, hg2, hf2⟩; have HM2 : Hid (PMem w2 pm S2 m1 ∧ Grow (A 2) w1 S2 ∧ Fr (A 2) w1 w2) := ⟨hm2, hg2, hf2⟩; clear hm2 hg2 hf2)
  have HS1 : Hid (KSit w2 p (updA A 2 S2) ps R1) := by rw [HE1.out]; exact HS.out.turn HK0.out (i := 1) (by omega) HPM.out HM2.out.1 HM2.out.2.1 HM2.out.2.2
  have HG1 : Hid (Grow (UA A) w1 (UA (updA A 2 S2)) ∧ Fr (UA A) w1 w2) := ⟨grow_u (i := 2) HM2.out.2.1, fr_u (i := 2) (by omega) HM2.out.2.2⟩
  clear HS HE1 HM2 hc0 hc1 HSU HPM HK0
  go_wp2
  go_loopw [2, 4] (fun o kk wr => ∃ (k : Nat) (A1 : Nat → Nat → Prop) (K : Clu), k ≤ 4 ∧ o = .bool true ∧ kk = .int .i64 k ∧ Hid (KSit wr p A1 ps K ∧ Grow (UA A) w1 (UA A1) ∧ Fr (UA A) w1 wr) ∧ Hid (KOk K (1 + 2 * k)) ∧ Hid (R2 = K.allTick (4 - k) k)) (fun _ kk _ => 4 - (intOf kk).toNat)
  case atStart => exact ⟨0, _, R1, by omega, rfl, rfl, ⟨HS1.out, HG1.out.1, HG1.out.2⟩, HK1.out, HFL.out.2⟩
  case round =>
    clear HS1 HG1 HK1
    obtain ⟨k, A1, K, hk, rfl, rfl, hS, hO, hE⟩ := hrel
    have hk0 : (0 : Int) ≤ (k : Int) := by omega
    by_cases hk4 : k < 4
    · have hkI : (k : Int) < 4 := by omega
      have hst : (K.ticks k).2 = true ∧ R2 = (K.ticks k).1.allTick (4 - (k + 1)) (k + 1) := by
        have h1 := hE.out
        rw [show 4 - k = (4 - (k + 1)) + 1 by omega, allTick_step] at h1
        cases hb : (K.ticks k).2 with
        | true => rw [hb] at h1; exact ⟨rfl, h1⟩
        | false => rw [hb] at h1; have h2 := HA2.out; rw [h1] at h2; rw [show (if false = true then _ else K.ticks k) = K.ticks k from rfl, hb] at h2; cases h2
      have HH : Hid (Calls Tryd.prog 22 #[.pointer (some ⟨p, 0, none⟩), .agg #[.int .i64 1, .int .i64 k, .int .i64 0]] wr fun e w' => e = .returned (.bool true) ∧ KGoes wr w' p A1 ps (K.ticks k).1) := by
        have h1 := khappens1 wr p A1 ps K hS.out.1 _ hO.out (by omega) k 0 (by omega) (by omega)
        rw [pick_small hk4, hst.1] at h1
        exact h1
      have HO2 : Hid (KOk (K.ticks k).1 (1 + 2 * (k + 1))) := ticks_kok hO.out hk4
      have HE2 : Hid (R2 = (K.ticks k).1.allTick (4 - (k + 1)) (k + 1)) := hst.2
      clear hE hst
      generalize (K.ticks k).1 = K2 at *
      go_wp2_with (go_at_call 22; refine HH.out.mono ?_; rintro e w3 ⟨rfl, hg3⟩; have HG3 : Hid (KGoes wr w3 p A1 ps K2) := hg3; clear hg3)
      go_roundw
      case rel =>
        obtain ⟨A2, z1, z2⟩ := HG3.out.ex
        exact ⟨k + 1, A2, K2, by omega, rfl, by go_num, ⟨z1, hS.out.2.1.trans hS.out.2.2.size z2, hS.out.2.2.grow hS.out.2.1 HG3.out.fr⟩, HO2.out, HE2.out⟩
      case measure => simp [intOf]; omega
    · have hkI : ¬ (k : Int) < 4 := by omega
      have hke : k = 4 := by omega
      subst hke
      have hR2 : R2 = (K, true) := hE.out
      have HF : Hid (Calls Tryd.prog 23 #[.pointer (some ⟨p, 0, none⟩), .int .i64 0, .int .i64 40] wr fun e w' => e = .returned (.tuple #[.int .i64 40, .bool true]) ∧ KGoes wr w' p A1 ps R3.1) := by
        have h0 : K.flows 0 40 = R3 := by rw [HFL.out.1, hR2]
        have h1 := kflows wr p A1 ps K hS.out.1 _ hO.out 0 40 (by omega) (by omega)
        rw [h0, HA3.out] at h1
        exact h1.mono (fun e w' h => ⟨h.1, h.2.1⟩)
      clear hR2 hE HFL HA2 HA3 hO
      go_upto_region 10 with (go_at_call 23; refine HF.out.mono ?_; rintro e w3 ⟨rfl, hg3⟩; have HG3 : Hid (KGoes wr w3 p A1 ps R3.1) := hg3; clear hg3)
      have HBB : Hid (Below w.heap.size w w3) := kbelow HB.out (hS.out.2.2.grow hS.out.2.1 HG3.out.fr) HN.out
      obtain ⟨A3, hs3, _⟩ := HG3.out.ex
      have HS3 : Hid (KSit w3 p A3 ps R3.1) := hs3
      clear hs3 HG3 HF hS HB HN
      go_wp2
      go_loopw [7] (fun kk w' => ∃ (j : Nat), j ≤ 4 ∧ kk = .int .i64 j ∧ Hid (w' = w3)) (fun kk _ => 4 - (intOf kk).toNat)
      case atStart => exact ⟨0, by omega, rfl, rfl⟩
      case round =>
        obtain ⟨j, hj, rfl, hw3⟩ := hrel
        obtain rfl : wr = w3 := hw3.out
        have hj0 : (0 : Int) ≤ (j : Int) := by omega
        by_cases hj4 : j < 4
        · have hjI : (j : Int) < 4 := by omega
          obtain ⟨a, cap, hwc, hrow⟩ := HS3.out.wcells j hj4
          obtain ⟨s, r, hlog, hse⟩ := HLG.out j
          rw [hlog] at hwc hrow
          obtain ⟨gl, ol, rfl, _, hgl, hcp⟩ := hrow.place (by simp)
          have sl : ∀ x : ByteArray, (scells x).length = 1 := fun _ => rfl
          have hs0 := hrow.elem sl 0 0 (by simp) (by omega)
          have hs1 : wr.cell? ⟨gl, ol, none⟩ = some (.string s) := by simpa [scells] using hs0
          simp only [List.length_cons] at hwc
          have hrl : (0 : Int) < ((r.length + 1 : Nat) : Int) := by omega
          have hb1 : bOne.toList = [111, 110, 101] := by decide +kernel
          have hse2 : (s.toList == [111, 110, 101]) = true := by rw [← hb1]; exact hse
          have hrz : (((r.length : Nat) : Int) + 1 == 0) = false := by simp; omega
          clear hse hb1
          clear hlog hrow hs0 sl
          go_wp2
          go_roundw
          case rel => exact ⟨j + 1, by omega, by go_num, by first | exact trivial | exact rfl⟩
          case measure => simp [intOf]; omega
        · have hjI : ¬ (j : Int) < 4 := by omega
          go_wp2
          go_ret
          exact ⟨rfl, HBB.out⟩
end Go.Proofs.YtkehpnobidendaaDoor

namespace Go.Proofs.YtkehpnobidendaaDoor
open Go.RowKit

/-- Is one of two logs the beginning of the other? -/
def Clu.agr (K : Clu) (i k : Nat) : Bool := isPrefix (K.was i).log (K.was k).log || isPrefix (K.was k).log (K.was i).log
def Clu.agree (K : Clu) : Bool := (List.range 4).all fun i => (List.range i).all fun k => K.agr i k
theorem agree_yes {K : Clu} (h : ∀ i k, i < 4 → k < i → K.agr i k = true) : K.agree = true := by
  unfold Clu.agree
  rw [List.all_eq_true]
  intro i hi
  rw [List.all_eq_true]
  intro k hk
  exact h i k (by simpa using hi) (by simpa using hk)
theorem agree_no {K : Clu} {i k : Nat} (hi : i < 4) (hk : k < i) (h : K.agr i k = false) : K.agree = false := by
  unfold Clu.agree
  rw [List.all_eq_false]
  refine ⟨i, by simpa using hi, ?_⟩
  rw [Bool.not_eq_true, List.all_eq_false]
  exact ⟨k, by simpa using hk, by rw [h]; decide⟩
set_option maxRecDepth 100000 in
set_option maxHeartbeats 4000000 in
theorem kagree (w : World) (p : Nat) (A : Nat → Nat → Prop) (ps : List (Option Nat)) (K : Clu) (h : KSit w p A ps K) (hwl : ∀ k, (K.was k).log.length ≤ 1700000000000) :
    Calls Tryd.prog 24 #[.pointer (some ⟨p, 0, none⟩)] w fun e w' => e = .returned (.bool K.agree) ∧ Below w.heap.size w w' := by
  have HS : Hid (KSit w p A ps K) := h
  have HWL : Hid (∀ k, (K.was k).log.length ≤ 1700000000000) := hwl
  have hpl : p < w.heap.size := h.k.lt
  clear h hwl
  go_enter Tryd.func24, Tryd.ntmps24
  go_wp2
  go_loopw [3] (fun ii wr => ∃ (i : Nat), i ≤ 4 ∧ ii = .int .i64 i ∧ Hid (Below w.heap.size w wr) ∧ Hid (∀ a b, a < i → b < a → K.agr a b = true)) (fun ii _ => 4 - (intOf ii).toNat)
  case atStart => exact ⟨0, by omega, rfl, Below.refl _ _, fun a b h _ => by omega⟩
  case round =>
    obtain ⟨i, hi, rfl, hbw, hal⟩ := hrel
    have hi0 : (0 : Int) ≤ (i : Int) := by omega
    by_cases hi4 : i < 4
    rotate_left
    · have hiI : ¬ (i : Int) < 4 := by omega
      have HY : Hid (K.agree = true) := agree_yes (fun a b h1 h2 => hal.out a b (by omega) h2)
      go_wp2
      go_ret
      rw [HY.out]
      exact ⟨rfl, hbw.out⟩
    have hiI : (i : Int) < 4 := by omega
    go_wp2
    go_loopw [4] (fun kk w' => ∃ (k : Nat), k ≤ i ∧ kk = .int .i64 k ∧ Hid (Below w.heap.size w w') ∧ Hid (∀ b, b < k → K.agr i b = true)) (fun kk _ => 4 - (intOf kk).toNat)
    case atStart => exact ⟨0, by omega, rfl, hbw.out, fun b h => by omega⟩
    case round =>
      clear hbw
      obtain ⟨k, hk, rfl, hbk, hak⟩ := hrel
      have hk0 : (0 : Int) ≤ (k : Int) := by omega
      by_cases hki : k < i
      rotate_left
      · have hkI : ¬ (k : Int) < (i : Int) := by omega
        have HN : Hid (∀ a b, a < i + 1 → b < a → K.agr a b = true) := fun a b h1 h2 => by
          by_cases e : a = i
          · subst e; exact hak.out b (by omega)
          · exact hal.out a b (by omega) h2
        go_wp2
        go_roundw
        case rel => exact ⟨i + 1, by omega, by go_num, hbk.out, HN.out⟩
        case measure => simp [intOf]; omega
      have hkI : (k : Int) < (i : Int) := by omega
      have hk4I : (k : Int) < 4 := by omega
      obtain ⟨ai, ci, hci, hri⟩ := HS.out.wcells i hi4
      obtain ⟨ak, ck, hck, hrk⟩ := HS.out.wcells k (by omega)
      have HCE : Hid (∀ W, Below w.heap.size w W → W.cell? ⟨p, 5 + i * 4 + 3, none⟩ = some (.slice ai (K.was i).log.length ci) ∧ W.cell? ⟨p, 5 + k * 4 + 3, none⟩ = some (.slice ak (K.was k).log.length ck)) := fun W hW => ⟨(hW.cell (p := ⟨p, 5 + i * 4 + 3, none⟩) hpl).trans hci, (hW.cell (p := ⟨p, 5 + k * 4 + 3, none⟩) hpl).trans hck⟩
      have HP1 : Hid (∀ W, Below w.heap.size w W → Calls Tryd.prog 41 #[.slice ai (K.was i).log.length ci, .slice ak (K.was k).log.length ck] W fun e w' => e = .returned (.bool (isPrefix (K.was i).log (K.was k).log)) ∧ Below W.heap.size W w') := fun W hW => kprefix W _ _ _ _ _ _ (hri.below hW) (hrk.below hW) (HWL.out i)
      have HP2 : Hid (∀ W, Below w.heap.size w W → Calls Tryd.prog 41 #[.slice ak (K.was k).log.length ck, .slice ai (K.was i).log.length ci] W fun e w' => e = .returned (.bool (isPrefix (K.was k).log (K.was i).log)) ∧ Below W.heap.size W w') := fun W hW => kprefix W _ _ _ _ _ _ (hrk.below hW) (hri.below hW) (HWL.out k)
      have HAG : Hid (K.agr i k = (isPrefix (K.was i).log (K.was k).log || isPrefix (K.was k).log (K.was i).log)) := rfl
      clear hci hck hri hrk
      generalize isPrefix (K.was i).log (K.was k).log = q1 at HP1 HAG
      generalize isPrefix (K.was k).log (K.was i).log = q2 at HP2 HAG
      go_upto_region 7 with fail
      go_cut [5] (fun s w' => s = .bool q1 ∧ Hid (Below w.heap.size w w'))
      case first =>
        go_region_held3 (fun W => W.cell? ⟨p, 5 + i * 4 + 3, none⟩ = some (.slice ai (K.was i).log.length ci) ∧ W.cell? ⟨p, 5 + k * 4 + 3, none⟩ = some (.slice ak (K.was k).log.length ck))
          (first | (exact HCE.out _ (bnext hbk.out (Below.refl _ _).drew)) | (exact HCE.out _ hbk.out) | (exact HCE.out _ HB5.out))
          ((go_at_call 41; refine (HP1.out _ (bnext hbk.out (Below.refl _ _).drew)).mono ?_; rintro e w5 ⟨rfl, hb5⟩; have HB5 : Hid (Below w.heap.size w w5) := bnext (bnext hbk.out (Below.refl _ _).drew) hb5; clear hb5))
        all_goals (
          go_wp2
          go_meet
          case rel => exact ⟨rfl, HB5.out⟩)
      case rest =>
        obtain ⟨rfl, hbc⟩ := hcut
        clear hbk
        go_upto_region 8 with fail
        go_cut [6] (fun s w' => s = .bool q2 ∧ Hid (Below w.heap.size w w'))
        case first =>
          go_region_held3 (fun W => W.cell? ⟨p, 5 + i * 4 + 3, none⟩ = some (.slice ai (K.was i).log.length ci) ∧ W.cell? ⟨p, 5 + k * 4 + 3, none⟩ = some (.slice ak (K.was k).log.length ck))
            (first | (exact HCE.out _ (bnext hbc.out (Below.refl _ _).drew)) | (exact HCE.out _ hbc.out) | (exact HCE.out _ HB5.out))
            ((go_at_call 41; refine (HP2.out _ (bnext hbc.out (Below.refl _ _).drew)).mono ?_; rintro e w5 ⟨rfl, hb5⟩; have HB5 : Hid (Below w.heap.size w w5) := bnext (bnext hbc.out (Below.refl _ _).drew) hb5; clear hb5))
          all_goals (
            go_wp2
            go_meet
            case rel => exact ⟨rfl, HB5.out⟩)
        case rest =>
          obtain ⟨rfl, hbd⟩ := hcut
          clear hbc HP1 HP2
          cases hag : K.agr i k with
          | false =>
            have HX : Hid (K.agree = false) := agree_no hi4 hki hag
            have hq := HAG.out.symm.trans hag
            obtain ⟨rfl, rfl⟩ : q1 = false ∧ q2 = false := by simpa using hq
            clear hq hag
            go_wp2
            go_ret
            rw [HX.out]
            exact ⟨rfl, hbd.out⟩
          | true =>
            have HN : Hid (∀ b, b < k + 1 → K.agr i b = true) := fun b hb => by
              by_cases e : b = k
              · subst e; exact hag
              · exact hak.out b (by omega)
            have hq := HAG.out.symm.trans hag
            clear hag
            cases q1
            · obtain rfl : q2 = true := by simpa using hq
              clear hq
              go_wp2
              go_roundw
              case rel => exact ⟨k + 1, by omega, by go_num, hbd.out, HN.out⟩
              case measure => simp [intOf]; omega
            · clear hq
              go_wp2
              go_roundw
              case rel => exact ⟨k + 1, by omega, by go_num, hbd.out, HN.out⟩
              case measure => simp [intOf]; omega
end Go.Proofs.YtkehpnobidendaaDoor

namespace Go.Proofs.YtkehpnobidendaaDoor
open Go.RowKit

def ErrP (m : Mem) (r : Mem × List Ltr × Int) : Prop := r.2.2 ≠ 0 → r = (m, [], r.2.2)
def ErrV (m : Mem) (r : Mem × Int) : Prop := r.2 ≠ 0 → r = (m, r.2)
theorem ErrP.ite {m : Mem} {c : Prop} [Decidable c] {a b : Mem × List Ltr × Int} (ha : ErrP m a) (hb : ErrP m b) : ErrP m (if c then a else b) := by split <;> assumption
theorem ErrV.ite {m : Mem} {c : Prop} [Decidable c] {a b : Mem × Int} (ha : ErrV m a) (hb : ErrV m b) : ErrV m (if c then a else b) := by split <;> assumption
theorem ErrP.no (m : Mem) (k : Int) : ErrP m (m, [], k) := fun _ => rfl
theorem ErrV.no (m : Mem) (k : Int) : ErrV m (m, k) := fun _ => rfl
theorem proposal_err (m : Mem) (x : Msg) : ErrP m (m.proposal x) := by
  unfold Mem.proposal
  refine .ite (.no _ _) (.ite (.no _ _) ?_)
  cases m.block x.block.just.block with
  | none => exact .no _ _
  | some p => exact .ite (.no _ _) (.ite (.no _ _) (fun h => absurd rfl h))
theorem vote_err (m : Mem) (x : Msg) : ErrV m (m.vote x) := by
  unfold Mem.vote
  refine .ite (.no _ _) (.ite (.no _ _) ?_)
  cases m.block x.number with
  | none => exact .no _ _
  | some p => exact .ite (.no _ _) (.ite (.no _ _) (.ite (.no _ _) (.ite (fun h => absurd rfl h) (fun h => absurd rfl h))))
theorem enters1_err (m : Mem) (x : Msg) : ErrV m (m.enters1 x) := by
  unfold Mem.enters1
  refine .ite (.no _ _) (.ite (.no _ _) ?_)
  cases m.block x.cert.block with
  | none => exact .no _ _
  | some p => exact .ite (.no _ _) (.ite (.no _ _) (.ite (.no _ _) (fun h => absurd rfl h)))
theorem takes_err {m : Mem} {x : Msg} : (m.takes x).2.2 ≠ 0 → m.takes x = (m, [], (m.takes x).2.2) := by
  show ErrP m (m.takes x)
  unfold Mem.takes
  refine .ite (proposal_err m x) (.ite (fun h => ?_) (.ite (fun h => ?_) (.no _ _)))
  · have h1 : (m.vote x).1 = m := by rw [vote_err m x h]
    show ((m.vote x).1, _) = _
    rw [h1]
  · have h1 : (m.enters1 x).1 = m := by rw [enters1_err m x h]
    show ((m.enters1 x).1, _) = _
    rw [h1]
theorem handle_err {m : Mem} {x : Msg} (hm : m.may = false) (h : (m.handle x).2.2 ≠ 0) : m.handle x = (m, [], (m.handle x).2.2) := by
  have h0 : (m.takes x).2.2 ≠ 0 := h
  have h1 := takes_err h0
  have h2 : (m.takes x).1 = m := by rw [h1]
  have h3 : (m.takes x).2.1 = [] := by rw [h1]
  have h4 : m.ends = (m, []) := by unfold Mem.ends; rw [hm]; rfl
  unfold Mem.handle
  rw [h2, h3, h4]
  rfl
/-- A message that is refused by no form and no seal, with another seal. -/
theorem takes_seal {m : Mem} {x : Msg} (h1 : (m.takes x).2.2 ≠ 1) (h2 : (m.takes x).2.2 ≠ 2) {s : Int} (hs : s ≠ x.sl) : (m.takes { x with sl := s }).2.2 = 2 := by
  unfold Mem.takes at h1 h2 ⊢
  dsimp only at h1 h2 ⊢
  by_cases k1 : x.kind = 1
  · rw [if_pos k1] at h1 h2 ⊢
    unfold Mem.proposal at h1 h2 ⊢
    dsimp only at h1 h2 ⊢
    split at h1
    · exact absurd rfl h1
    · rename_i hf
      rw [if_neg hf] at h2 ⊢
      split at h2
      · exact absurd rfl h2
      · rename_i hg
        have hx : x.sl = sealOf x.fro 1 x.view x.block.num := Classical.byContradiction fun h => hg (.inl h)
        rw [if_pos (.inl (by rw [← hx]; exact hs))]
  · rw [if_neg k1] at h1 h2 ⊢
    by_cases k2 : x.kind = 2
    · rw [if_pos k2] at h1 h2 ⊢
      dsimp only at h1 h2 ⊢
      unfold Mem.vote at h1 h2 ⊢
      dsimp only at h1 h2 ⊢
      split at h1
      · exact absurd rfl h1
      · rename_i hf
        rw [if_neg hf] at h2 ⊢
        split at h2
        · exact absurd rfl h2
        · rename_i hg
          have hx : x.sl = sealOf x.fro 2 x.view x.number := Classical.byContradiction fun h => hg h
          rw [if_pos (by rw [← hx]; exact hs)]
    · rw [if_neg k2] at h1 h2 ⊢
      by_cases k3 : x.kind = 3
      · rw [if_pos k3] at h1 h2 ⊢
        dsimp only at h1 h2 ⊢
        unfold Mem.enters1 at h1 h2 ⊢
        dsimp only at h1 h2 ⊢
        split at h1
        · exact absurd rfl h1
        · rename_i hf
          rw [if_neg hf] at h2 ⊢
          split at h2
          · exact absurd rfl h2
          · rename_i hg
            have hx : x.sl = sealOf x.fro 3 x.view 0 := Classical.byContradiction fun h => hg (.inl h)
            rw [if_pos (.inl (by rw [← hx]; exact hs))]
      · rw [if_neg k3] at h1
        exact absurd rfl h1
/-- A proposal that is refused by no form and no seal, with other seals in its certificate, too few of them right. -/
theorem takes_just {m : Mem} {x : Msg} (k1 : x.kind = 1) (h1 : (m.takes x).2.2 ≠ 1) {b : Blk} (hv : b.view = x.block.view) (hc : b.cmd = x.block.cmd) (hj : b.just.view = x.block.just.view) (hg : b.just.good = false) : (m.takes { x with block := b, sl := sealOf x.fro 1 x.view b.num }).2.2 = 2 := by
  unfold Mem.takes at h1 ⊢
  dsimp only at h1 ⊢
  rw [if_pos k1] at h1 ⊢
  unfold Mem.proposal at h1 ⊢
  dsimp only at h1 ⊢
  split at h1
  · exact absurd rfl h1
  · rename_i hf
    rw [← hv, ← hc, ← hj] at hf
    rw [if_neg hf, if_pos (.inr hg)]
/-- What the member had is what it has. -/
def wasIs (K : Clu) (k : Nat) (m : Mem) : Bool := decide ((K.was k).view = m.view ∧ (K.was k).high = m.high.view ∧ (K.was k).locked = m.locked.view ∧ (K.was k).log = m.commands)
theorem wasIs_out {K : Clu} {k : Nat} {m : Mem} (h : wasIs K k m = true) : K.was k = m.sta := by
  unfold wasIs at h
  rw [decide_eq_true_eq] at h
  generalize K.was k = s at h
  obtain ⟨a, b, c, d⟩ := s
  obtain ⟨rfl, rfl, rfl, rfl⟩ := h
  rfl
def againAt (K : Clu) (l : Ltr) (k : Nat) : Bool :=
  if l.to = k ∨ l.to < 0 then match K.memAt k with
    | none => false
    | some m => (!m.may && wasIs K k m) && (((m.handle l.msg).2.2 == 4 || (m.handle l.msg).2.2 == 5) && m.sta.grows m.sta)
  else true
def againRun : Nat → Nat → Clu → Bool
  | 0, _, _ => true
  | f + 1, at1, K => K.agree && match K.letters[at1]? with
    | none => false
    | some l => ((K.goes l 4 0).2 && !(K.goes l 4 0).1.over) && (((List.range 4).all fun k => againAt (K.goes l 4 0).1 l k) && againRun f (at1 + 1) (K.goes l 4 0).1)
def ticked (p : Int) : Clu × Bool := (Clu.begins (-1) p).allTick 4 0
theorem again_run : againRun 60 0 (ticked 50).1 = true := by decide +kernel
def sealedAt (K : Clu) (at1 : Nat) : Bool := !K.over && match K.letters[at1]? with
  | none => false
  | some l => decide (l.to ≤ 3 ∧ -1 ≤ l.to) && (List.range 4).all fun k => if l.to = k ∨ l.to < 0 then match K.memAt k with
    | none => false
    | some m => (!m.may && wasIs K k m) && ((m.takes l.msg).2.2 != 1 && ((m.takes l.msg).2.2 != 2 && (m.sta.grows m.sta && (if l.msg.kind = 1 ∧ 1 < l.msg.view then decide (1 ≤ l.msg.block.just.view) && (List.range 4).all (fun i => sealOf i 2 l.msg.block.just.view l.msg.block.just.block != 0) else true))))
  else true
def sealedRun : Nat → Nat → Clu → Bool
  | 0, _, _ => true
  | f + 1, at1, K => (decide (at1 < 5) || sealedAt K at1) && match K.letters[at1]? with
    | none => false
    | some l => (K.goes l 4 0).2 && sealedRun f (at1 + 1) (K.goes l 4 0).1
theorem sealed_run : sealedRun 25 0 (ticked 50).1 = true := by decide +kernel
theorem ticked_ok : (ticked 50).2 = true := by decide +kernel
end Go.Proofs.YtkehpnobidendaaDoor

namespace Go.Proofs.YtkehpnobidendaaDoor
open Go.RowKit

theorem setMem_self {K : Clu} {k : Nat} {m : Mem} (h : K.memAt k = some m) : K.setMem k m = K := by
  have e : K.mem.set k (some m) = K.mem := by
    unfold Clu.memAt at h
    rw [List.getD_eq_getElem?_getD] at h
    cases hk : K.mem[k]? with
    | none => rw [hk] at h; cases h
    | some o =>
      rw [hk] at h
      have ho : o = some m := h
      subst ho
      obtain ⟨h1, h2⟩ := List.getElem?_eq_some_iff.1 hk
      rw [← h2, List.set_getElem_self]
  unfold Clu.setMem
  rw [e]
theorem setWas_self {K : Clu} {k : Nat} {s : Sta} (h : K.was k = s) : K.setWas k s = K := by
  subst h
  unfold Clu.setWas Clu.was
  split
  · rfl
  · split
    · rfl
    · split <;> rfl
/-- A message that is refused. -/
theorem krefused {w : World} {p pm : Nat} {A : Nat → Nat → Prop} {ps : List (Option Nat)} {K : Clu} {n : Nat} (h : KSit w p A ps K) (ok : KOk K n) (hn : n ≤ 1600000000) {k : Nat} (hk : k < 4) (hp : ps.getD k none = some pm) {m : Mem} (hm : K.memAt k = some m) {x : Msg} (hx : x.Ok) (hy : m.may = false) (he : (m.handle x).2.2 ≠ 0) :
    Calls Tryd.prog 25 #[.pointer (some ⟨pm, 0, none⟩), .agg x.cells.toArray] w fun e w' => ∃ a cap, e = .returned (.tuple #[.slice a 0 cap, .int .i64 (m.handle x).2.2]) ∧ KGoes w w' p A ps K ∧ Fr (A (k + 1)) w w' := by
  obtain ⟨pm', hq, hpm⟩ := h.some1 hk hm
  rw [hp] at hq
  obtain rfl := Option.some.inj hq
  have hmo := ok.at' hm
  have e1 := handle_err hy he
  refine (phandle w pm (A (k + 1)) m hpm hmo.iv hmo.i2 x hx (hmo.small (by omega))).mono ?_
  rintro e w' ⟨a, cap, he2, hg⟩
  have e2 : (m.handle x).2.1 = [] := by rw [e1]
  have e3 : (m.handle x).1 = m := by rw [e1]
  rw [e2] at he2 hg
  rw [e3] at hg
  obtain ⟨S', h1, h2, _⟩ := hg.ex
  refine ⟨a, cap, he2, ⟨⟨updA A (k + 1) S', ?_, grow_u (i := k + 1) h2⟩, fr_u (i := k + 1) (by omega) hg.fr⟩, hg.fr⟩
  have := h.turn ok.ml hk hp h1 h2 hg.fr
  rw [setMem_self hm] at this
  exact this
/-- steady, where what the member had is what it has. -/
theorem ksteady_same {w : World} {p : Nat} {A : Nat → Nat → Prop} {ps : List (Option Nat)} {K : Clu} {n : Nat} (h : KSit w p A ps K) (ok : KOk K n) (hn : n ≤ 1600000000) {k : Nat} (hk : k < 4) {m : Mem} (hm : K.memAt k = some m) (hw : K.was k = m.sta) (hg : m.sta.grows m.sta = true) :
    Calls Tryd.prog 26 #[.pointer (some ⟨p, 0, none⟩), .int .i64 k] w fun e w' => e = .returned (.bool true) ∧ KGoes w w' p A ps K := by
  obtain ⟨pm, hq, hpm⟩ := h.some1 hk hm
  have hmo := ok.at' hm
  have hl := log_len hmo.iv
  have hb := hmo.b
  have hwl := ok.wl k
  refine (ksteady w p (A 0) ps K h.k k hk pm (A (k + 1)) m h.l ?_ hpm (by omega) hmo.lgk (by omega)).mono ?_
  · rw [List.getD_eq_getElem?_getD] at hq
    have hk4 : k < ps.length := by have := h.l; omega
    rw [List.getElem?_eq_getElem hk4] at hq ⊢
    exact congrArg some hq
  · rintro e w' ⟨he, S', h1, h2, h3⟩
    rw [hw, hg] at he
    rw [setWas_self hw] at h1
    exact ⟨he, ⟨⟨updA A 0 S', h.clu h1 rfl h2 h3, grow_u (i := 0) h2⟩, fr_u (i := 0) (by omega) h3⟩⟩
end Go.Proofs.YtkehpnobidendaaDoor

namespace Go.Proofs.YtkehpnobidendaaDoor
open Go.RowKit

/-- Nobody hears: so many rounds of ticks. -/
def quietK : Nat → Clu
  | 0 => Clu.begins (-1) 1
  | n + 1 => ((quietK n).allTick 4 0).1
def quietRun : Nat → Clu → Bool
  | 0, _ => true
  | n + 1, K => (K.allTick 4 0).2 && quietRun n (K.allTick 4 0).1
/-- What is asked in the end. -/
def recGood (v : Int) (K : Clu) : Bool := !K.over && (K.agree && ((List.range 4).all fun k => decide ((K.was k).log.length ≠ 0 ∧ v + 4 < (K.was k).view)))
/-- From a letter on, all that is sent comes, in order; from the sixtieth letter on all is as it is asked, whenever it ends. -/
def recRun (v : Int) : Nat → Nat → Nat → Clu → Bool
  | 0, _, _, _ => true
  | f + 1, n, at1, K => (decide (n < 60) || recGood v K) && match K.letters[at1]? with
    | none => false
    | some l => (K.goes l 4 0).2 && recRun v f (n + 1) (at1 + 1) (K.goes l 4 0).1
def recOk (s : Nat) : Bool :=
  let K := quietK (s + 1)
  decide (K.letters.length = 4 * (s + 1)) && (((List.range 4).all fun k => decide ((K.was k).log.length = 0 ∧ (K.was k).view = s + 2)) && (((K.letters.drop (4 * s)).all fun l => decide (l.msg.kind = 3 ∧ l.msg.view = s + 2 ∧ l.to = (s + 2) % 4)) && recRun (s + 2) 120 0 (4 * s) K))
theorem quiet_run : quietRun 30 (Clu.begins (-1) 1) = true := by decide +kernel
theorem quiet_at : ∀ (n j : Nat), quietRun n (quietK j) = true → ∀ i, i < n → ((quietK (j + i)).allTick 4 0).2 = true
  | 0, _, _, _, hi => by omega
  | n + 1, j, h, i, hi => by
    have h' : ((quietK j).allTick 4 0).2 = true ∧ quietRun n (quietK (j + 1)) = true := by
      unfold quietRun at h
      rw [Bool.and_eq_true] at h
      exact h
    cases i with
    | zero => exact h'.1
    | succ i => rw [show j + (i + 1) = (j + 1) + i by omega]; exact quiet_at n (j + 1) h'.2 i (by omega)
theorem quiet_step (i : Nat) (h : i < 30) : (quietK i).allTick 4 0 = (quietK (i + 1), true) := by
  have h1 := quiet_at 30 0 quiet_run i h
  rw [Nat.zero_add] at h1
  show _ = (((quietK i).allTick 4 0).1, true)
  rw [← h1]
theorem recRun_flows {v : Int} : ∀ (f n at1 : Nat) (K : Clu), recRun v f n at1 K = true → ∀ j, j < f → ∃ K', K.flows at1 j = (K', at1 + j, true) ∧ (60 ≤ n + j → recGood v K' = true)
  | 0, _, _, _, _, _, hj => by omega
  | f + 1, n, at1, K, h, j, hj => by
    unfold recRun at h
    rw [Bool.and_eq_true, Bool.or_eq_true, decide_eq_true_eq] at h
    obtain ⟨h1, h2⟩ := h
    cases j with
    | zero => exact ⟨K, rfl, fun hh => h1.resolve_left (by omega)⟩
    | succ j =>
      cases hl : K.letters[at1]? with
      | none => rw [hl] at h2; cases h2
      | some l =>
        rw [hl] at h2
        rw [Bool.and_eq_true] at h2
        obtain ⟨K', e1, e2⟩ := recRun_flows f (n + 1) (at1 + 1) _ h2.2 j (by omega)
        refine ⟨K', ?_, fun hh => e2 (by omega)⟩
        rw [Clu.flows, hl]
        show (if (K.goes l 4 0).2 then _ else _) = _
        rw [if_pos h2.1, e1, show at1 + 1 + j = at1 + (j + 1) by omega]
/-- All that the walk asks of the plain run. -/
theorem recOk_out {s : Nat} (h : recOk s = true) :
    (quietK (s + 1)).letters.length = 4 * (s + 1) ∧ (∀ k, k < 4 → ((quietK (s + 1)).was k).log.length = 0 ∧ ((quietK (s + 1)).was k).view = (s : Int) + 2) ∧
    (∀ (i : Nat) (hi : i < (quietK (s + 1)).letters.length), 4 * s ≤ i → ((quietK (s + 1)).letters[i]).msg.kind = 3 ∧ ((quietK (s + 1)).letters[i]).msg.view = (s : Int) + 2 ∧ ((quietK (s + 1)).letters[i]).to = ((s : Int) + 2) % 4) ∧
    ∀ b, b < 60 → ∃ K', (quietK (s + 1)).flows (4 * s) (60 + b) = (K', 4 * s + (60 + b), true) ∧ K'.over = false ∧ K'.agree = true ∧ ∀ k, k < 4 → (K'.was k).log.length ≠ 0 ∧ (s : Int) + 2 + 4 < (K'.was k).view := by
  unfold recOk at h
  dsimp only at h
  rw [Bool.and_eq_true, Bool.and_eq_true, Bool.and_eq_true, decide_eq_true_eq] at h
  obtain ⟨h1, h2, h3, h4⟩ := h
  rw [List.all_eq_true] at h2 h3
  refine ⟨h1, fun k hk => ?_, fun i hi h0 => ?_, fun b hb => ?_⟩
  · have := h2 k (by simpa using hk)
    rw [decide_eq_true_eq] at this
    exact this
  · have hm : (quietK (s + 1)).letters[i] ∈ (quietK (s + 1)).letters.drop (4 * s) := by
      rw [List.mem_drop_iff_getElem]
      exact ⟨i - 4 * s, by omega, by congr 1; omega⟩
    have := h3 _ hm
    rw [decide_eq_true_eq] at this
    exact this
  · obtain ⟨K', e1, e2⟩ := recRun_flows 120 0 (4 * s) _ h4 (60 + b) (by omega)
    have e3 := e2 (by omega)
    unfold recGood at e3
    rw [Bool.and_eq_true, Bool.and_eq_true, List.all_eq_true] at e3
    refine ⟨K', e1, by simpa using e3.1, e3.2.1, fun k hk => ?_⟩
    have := e3.2.2 k (by simpa using hk)
    rw [decide_eq_true_eq] at this
    exact this
end Go.Proofs.YtkehpnobidendaaDoor

namespace Go.Proofs.YtkehpnobidendaaDoor
open Go.RowKit

/-- Where what a member had lies. -/
theorem KSit.vcells {w : World} {p : Nat} {A : Nat → Nat → Prop} {ps : List (Option Nat)} {K : Clu} (h : KSit w p A ps K) (k : Nat) (hk : k < 4) : w.cell? ⟨p, 5 + k * 4, none⟩ = some (.int .i64 (K.was k).view) ∧ w.cell? ⟨p, 5 + k * 4 + 1, none⟩ = some (.int .i64 (K.was k).high) ∧ w.cell? ⟨p, 5 + k * 4 + 2, none⟩ = some (.int .i64 (K.was k).locked) := by
  obtain ⟨vm, vl, vc, vv, l0, l1, l2, l3, vb, g1⟩ := h.k.ex
  rcases (by omega : k = 0 ∨ k = 1 ∨ k = 2 ∨ k = 3) with rfl | rfl | rfl | rfl
  · exact ⟨cell_at g1.box 5, cell_at g1.box 6, cell_at g1.box 7⟩
  · exact ⟨cell_at g1.box 9, cell_at g1.box 10, cell_at g1.box 11⟩
  · exact ⟨cell_at g1.box 13, cell_at g1.box 14, cell_at g1.box 15⟩
  · exact ⟨cell_at g1.box 17, cell_at g1.box 18, cell_at g1.box 19⟩
theorem KSit.over {w : World} {p : Nat} {A : Nat → Nat → Prop} {ps : List (Option Nat)} {K : Clu} (h : KSit w p A ps K) : w.cell? ⟨p, 23, none⟩ = some (.bool K.over) := by
  obtain ⟨vm, vl, vc, vv, l0, l1, l2, l3, vb, g1⟩ := h.k.ex
  exact cell_at g1.box 23
set_option maxRecDepth 100000 in
set_option maxHeartbeats 8000000 in
theorem krecovers0 (hrok : ∀ s, s < 30 → recOk s = true) (be si : Int) (p0 : -9223372036854775808 ≤ be) (p1 : be ≤ 9223372036854775807) (t0 : -9223372036854775808 ≤ si) (t1 : si ≤ 9223372036854775807) (w : World) (ht : Tab w) :
    Calls Tryd.prog 7 #[.int .i64 be, .int .i64 si] w fun e w' => e = .returned (.bool true) ∧ Below w.heap.size w w' := by
  have HAW : Hid (Calls Tryd.prog 10 #[] w fun e w' => e = .returned (.bool true) ∧ Below w.heap.size w w') := kawake w ht
  have HT : Hid (Tab w) := ht
  have HBG : Hid (∀ W, Tab W → Calls Tryd.prog 19 #[.int .i64 (-1), .int .i64 1] W fun e w' => KBegun W (-1) 1 e w') := fun W hW => kbegins W hW (-1) 1 (by decide) (by decide)
  have HP1 : Hid (∀ W, Calls Tryd.prog 13 #[.int .i64 si, .int .i64 30] W fun e w' => e = .returned (.int .i64 (pickN si 30)) ∧ W = w') := fun W => (kpick si 30 t0 t1 (by decide) (by decide) W).mono (fun _ _ h => ⟨h.1, h.2.symm⟩)
  have HP2 : Hid (∀ W, Calls Tryd.prog 13 #[.int .i64 be, .int .i64 60] W fun e w' => e = .returned (.int .i64 (pickN be 60)) ∧ W = w') := fun W => (kpick be 60 p0 p1 (by decide) (by decide) W).mono (fun _ _ h => ⟨h.1, h.2.symm⟩)
  have hs := pickN_lt si 30 (by decide)
  have hb := pickN_lt be 60 (by decide)
  generalize pickN si 30 = s at hs HP1
  generalize pickN be 60 = b at hb HP2
  obtain ⟨r1, r2, r3, r4⟩ := recOk_out (hrok s hs)
  obtain ⟨Kf, r5, r6, r7, r8⟩ := r4 b hb
  have HR1 : Hid ((quietK (s + 1)).letters.length = 4 * (s + 1)) := r1
  have HR2 : Hid (∀ k, k < 4 → ((quietK (s + 1)).was k).log.length = 0 ∧ ((quietK (s + 1)).was k).view = (s : Int) + 2) := r2
  have HR3 : Hid (∀ (i : Nat) (hi : i < (quietK (s + 1)).letters.length), 4 * s ≤ i → ((quietK (s + 1)).letters[i]).msg.kind = 3 ∧ ((quietK (s + 1)).letters[i]).msg.view = (s : Int) + 2 ∧ ((quietK (s + 1)).letters[i]).to = ((s : Int) + 2) % 4) := r3
  have HR5 : Hid ((quietK (s + 1)).flows (4 * s) (60 + b) = (Kf, 4 * s + (60 + b), true)) := r5
  have HR6 : Hid (Kf.over = false ∧ Kf.agree = true) := ⟨r6, r7⟩
  have HR8 : Hid (∀ k, k < 4 → (Kf.was k).log.length ≠ 0 ∧ (s : Int) + 2 + 4 < (Kf.was k).view) := r8
  clear r1 r2 r3 r4 r5 r6 r7 r8 ht hrok
  have hsI : (s : Int) ≤ 29 := by omega
  have hs0 : (0 : Int) ≤ (s : Int) := by omega
  have hbI : (b : Int) ≤ 59 := by omega
  have hb0 : (0 : Int) ≤ (b : Int) := by omega
  go_enter Tryd.func7, Tryd.ntmps7
  go_upto_region 2 with (go_at_call 10; refine HAW.out.mono ?_; rintro e w1 ⟨rfl, hb1⟩; have HB1 : Hid (Below w.heap.size w w1) := hb1; clear hb1)
  have HT1 : Hid (Tab w1) := HT.out.below HB1.out
  go_upto_region 3 with (go_at_call 19; refine (HBG.out w1 HT1.out).mono ?_; rintro e w2 ⟨p, A, ps, rfl, hs2, hn2, hb2⟩; have HS : Hid (KSit w2 p A ps (quietK 0)) := hs2; have HN : Hid (∀ b, UA A b → w1.heap.size ≤ b) := hn2; have HB2 : Hid (Below w1.heap.size w1 w2) := hb2; clear hs2 hn2 hb2)
  have HK0 : Hid (KOk (quietK 0) 1) := begins_kok (-1) 1 (by decide) (by decide)
  have HBE : Hid (Below w.heap.size w w2) := bnext HB1.out HB2.out
  have HNE : Hid (∀ b, UA A b → w.heap.size ≤ b) := fun b hb => Nat.le_trans HB1.out.size (HN.out b hb)
  clear HAW HBG HT HT1 HB1 HB2 HN
  go_upto_region 6 with (go_at_call 13; refine (HP1.out _).mono ?_; rintro e w9 ⟨rfl, rfl⟩)
  clear HP1
  go_wp2
  go_loopw [7, 8] (fun oo ii wr => ∃ (i : Nat) (A1 : Nat → Nat → Prop), i ≤ s + 1 ∧ oo = .bool true ∧ ii = .int .i64 i ∧ Hid (KSit wr p A1 ps (quietK i) ∧ Grow (UA A) w2 (UA A1) ∧ Fr (UA A) w2 wr) ∧ Hid (KOk (quietK i) (1 + 8 * i))) (fun _ ii _ => s + 1 - (intOf ii).toNat)
  case atStart => exact ⟨0, A, by omega, rfl, rfl, ⟨HS.out, Grow.refl _ _, Fr.refl _ _⟩, HK0.out⟩
  case round =>
    clear HS HK0
    obtain ⟨i, A1, hi, rfl, rfl, hS, hO⟩ := hrel
    have hi0 : (0 : Int) ≤ (i : Int) := by omega
    by_cases his : i ≤ s
    · have hiI : (i : Int) ≤ (s : Int) := by omega
      have HQS : Hid ((quietK i).allTick 4 0 = (quietK (i + 1), true)) := quiet_step i (by omega)
      obtain ⟨Kn, hKn⟩ : ∃ K, K = quietK (i + 1) := ⟨_, rfl⟩
      have HKn : Hid (quietK (i + 1) = Kn) := hKn.symm
      rw [← hKn] at HQS
      clear hKn
      generalize quietK i = Ki at HQS hS hO
      go_wp2
      go_loopw [7, 9] (fun oo kk wq => ∃ (k : Nat) (A2 : Nat → Nat → Prop) (K : Clu), k ≤ 4 ∧ oo = .bool true ∧ kk = .int .i64 k ∧ Hid (KSit wq p A2 ps K ∧ Grow (UA A) w2 (UA A2) ∧ Fr (UA A) w2 wq) ∧ Hid (KOk K (1 + 8 * i + 2 * k)) ∧ Hid (K.allTick (4 - k) k = (Kn, true))) (fun _ kk _ => 4 - (intOf kk).toNat)
      case atStart => exact ⟨0, A1, Ki, by omega, rfl, rfl, hS.out, hO.out, HQS.out⟩
      case round =>
        clear hS hO HQS
        obtain ⟨k, A2, K, hk, rfl, rfl, hS, hO, hE⟩ := hrel
        have hk0 : (0 : Int) ≤ (k : Int) := by omega
        by_cases hk4 : k < 4
        · have hkI : (k : Int) < 4 := by omega
          have hst : (K.ticks k).2 = true ∧ (K.ticks k).1.allTick (4 - (k + 1)) (k + 1) = (Kn, true) := by
            have h1 := hE.out
            rw [show 4 - k = (4 - (k + 1)) + 1 by omega, allTick_step] at h1
            cases hb : (K.ticks k).2 with
            | true => rw [hb] at h1; exact ⟨rfl, h1⟩
            | false => rw [hb] at h1; rw [show (if false = true then _ else K.ticks k) = K.ticks k from rfl] at h1; rw [h1] at hb; cases hb
          have HH : Hid (Calls Tryd.prog 22 #[.pointer (some ⟨p, 0, none⟩), .agg #[.int .i64 1, .int .i64 k, .int .i64 0]] wr fun e w' => e = .returned (.bool true) ∧ KGoes wr w' p A2 ps (K.ticks k).1) := by
            have h1 := khappens1 wr p A2 ps K hS.out.1 _ hO.out (by omega) k 0 (by omega) (by omega)
            rw [pick_small hk4, hst.1] at h1
            exact h1
          have HO2 : Hid (KOk (K.ticks k).1 (1 + 8 * i + 2 * (k + 1))) := ticks_kok hO.out hk4
          have HE2 : Hid ((K.ticks k).1.allTick (4 - (k + 1)) (k + 1) = (Kn, true)) := hst.2
          clear hE hst
          generalize (K.ticks k).1 = K2 at *
          go_wp2_with (go_at_call 22; refine HH.out.mono ?_; rintro e w3 ⟨rfl, hg3⟩; have HG3 : Hid (KGoes wr w3 p A2 ps K2) := hg3; clear hg3)
          go_roundw
          case rel =>
            obtain ⟨A3, z1, z2⟩ := HG3.out.ex
            exact ⟨k + 1, A3, K2, by omega, rfl, by go_num, ⟨z1, hS.out.2.1.trans hS.out.2.2.size z2, hS.out.2.2.grow hS.out.2.1 HG3.out.fr⟩, HO2.out, HE2.out⟩
          case measure => simp [intOf]; omega
        · have hkI : ¬ (k : Int) < 4 := by omega
          have hke : k = 4 := by omega
          subst hke
          have HKe : Hid (K = Kn) := congrArg Prod.fst hE.out
          go_wp2
          go_roundw
          case rel => exact ⟨i + 1, A2, by omega, rfl, by go_num, by rw [HKn.out, ← HKe.out]; exact hS.out, by rw [HKn.out, ← HKe.out]; exact hO.out.mono (by omega)⟩
          case measure => simp [intOf]; omega
    · have hiI : ¬ (i : Int) ≤ (s : Int) := by omega
      have hie : i = s + 1 := by omega
      subst hie
      generalize quietK (s + 1) = K at *
      have v0 := (hS.out.1.vcells 0 (by omega)).1
      rw [(HR2.out 0 (by omega)).2] at v0
      obtain ⟨al, cl, q2, hrow⟩ := hS.out.1.lcells
      obtain ⟨N, hN⟩ : ∃ N, N = K.letters.length := ⟨_, rfl⟩
      rw [← hN] at q2
      have hN4 : N = 4 * (s + 1) := hN.trans HR1.out
      obtain ⟨a, ha⟩ : ∃ a, a = 4 * s := ⟨_, rfl⟩
      have hNa : (N : Int) - 4 = (a : Int) := by omega
      have HNA : Hid ((N : Int) - 4 = (a : Int)) := hNa
      have hN0 : (4 : Int) ≤ (N : Int) := by omega
      have hN1 : (N : Int) ≤ 120 := by omega
      have HA4 : Hid (a = 4 * s ∧ N = a + 4) := ⟨ha, by omega⟩
      have HNL : Hid (N = K.letters.length) := hN
      have HRW : Hid (Row wr (A1 0) 42 20 (.slice al K.letters.length cl) K.letters.length (K.letters.flatMap Ltr.cells)) := hrow
      obtain ⟨g, off, rfl, _, _, hcl⟩ := hrow.place (by omega)
      clear hN hN4 ha hNa hrow
      go_upto_region 16 with fail
      go_wp2
      go_loopw [11] (fun kk w' => ∃ (j : Nat), j ≤ 4 ∧ kk = .int .i64 j ∧ Hid (w' = wr)) (fun kk _ => 4 - (intOf kk).toNat)
      case atStart => exact ⟨0, by omega, rfl, rfl⟩
      case round =>
        obtain ⟨j, hj, rfl, hw3⟩ := hrel
        obtain rfl := hw3.out
        have hj0 : (0 : Int) ≤ (j : Int) := by omega
        by_cases hj4 : j < 4
        · have hjI : (j : Int) < 4 := by omega
          obtain ⟨av, cap, hwc, _⟩ := hS.out.1.wcells j hj4
          have hwv := (hS.out.1.vcells j hj4).1
          rw [(HR2.out j hj4).1] at hwc
          rw [(HR2.out j hj4).2] at hwv
          go_wp2
          go_roundw
          case rel => exact ⟨j + 1, by omega, by go_num, by first | exact trivial | exact rfl⟩
          case measure => simp [intOf]; omega
        · have hjI : ¬ (j : Int) < 4 := by omega
          go_upto_region 22 with fail
          rw [HNA.out]
          go_wp2
          go_loopw [13] (fun kk w' => ∃ (j : Nat), a ≤ j ∧ j ≤ N ∧ kk = .int .i64 j ∧ Hid (w' = wr)) (fun kk _ => N - (intOf kk).toNat)
          case atStart => exact ⟨a, by omega, by have := HA4.out; omega, rfl, rfl⟩
          case round =>
            obtain ⟨j, hja, hjN, rfl, hw3⟩ := hrel
            obtain rfl := hw3.out
            have hj0 : (0 : Int) ≤ (j : Int) := by omega
            by_cases hjl : j < N
            · have hjI : (j : Int) < (N : Int) := by omega
              have hjK : j < K.letters.length := by rw [← HNL.out]; exact hjl
              obtain ⟨k1, k2, k3⟩ := HR3.out j hjK (by have := HA4.out; omega)
              have f20 : ∀ l : Ltr, l.cells.length = 20 := fun _ => rfl
              have e0 := HRW.out.elem f20 j 0 hjK (by omega)
              have e1 := HRW.out.elem f20 j 1 hjK (by omega)
              have e3 := HRW.out.elem f20 j 3 hjK (by omega)
              generalize K.letters[j] = l at k1 k2 k3 e0 e1 e3
              obtain ⟨l0, ⟨xk, xf, xv, bl, nu, ct, sl⟩⟩ := l
              dsimp only at k1 k2 k3
              rw [← Int.tmod_eq_emod_of_nonneg (by omega)] at k3
              subst k1 k2 k3
              have c0 : wr.cell? ⟨g, off + j * 20, none⟩ = some (.int .i64 (((s : Int) + 2).tmod 4)) := e0
              have c1 : wr.cell? ⟨g, off + j * 20 + 1, none⟩ = some (.int .i64 3) := by rw [Nat.add_assoc]; exact e1
              have c3 : wr.cell? ⟨g, off + j * 20 + 3, none⟩ = some (.int .i64 ((s : Int) + 2)) := by rw [Nat.add_assoc]; exact e3
              clear e0 e1 e3 f20
              go_wp2
              go_roundw
              case rel => exact ⟨j + 1, by omega, by omega, by go_num, by first | exact trivial | exact rfl⟩
              case measure => simp [intOf]; omega
            · have hjI : ¬ (j : Int) < (N : Int) := by omega
              have HF : Hid (Calls Tryd.prog 23 #[.pointer (some ⟨p, 0, none⟩), .int .i64 a, .int .i64 (60 + (b : Int))] wr fun e w' => (∃ n : Int, e = .returned (.tuple #[.int .i64 n, .bool true])) ∧ KGoes wr w' p A1 ps Kf ∧ KOk Kf (2000)) := by
                have h1 := kflows wr p A1 ps K hS.out.1 _ hO.out (4 * s) (60 + b) (by omega) (by omega)
                rw [HR5.out] at h1
                have e1 : ((60 + b : Nat) : Int) = 60 + (b : Int) := by omega
                have e2 : ((4 * s : Nat) : Int) = (a : Int) := by have := HA4.out; omega
                rw [e1, e2] at h1
                exact h1.mono (fun e w' h => ⟨⟨_, h.1⟩, h.2.1, h.2.2.mono (by omega)⟩)
              clear HR5 HR3 HRW
              go_upto_region 28 with (first | (go_at_call 13; refine (HP2.out _).mono ?_; rintro e w9 ⟨rfl, rfl⟩) | (go_at_call 23; refine HF.out.mono ?_; rintro e w3 ⟨⟨nn, rfl⟩, hg3, hok3⟩; have HG3 : Hid (KGoes wr w3 p A1 ps Kf) := hg3; have HO3 : Hid (KOk Kf 2000) := hok3; clear hg3 hok3))
              have HBB : Hid (Below w.heap.size w w3) := kbelow HBE.out (hS.out.2.2.grow hS.out.2.1 HG3.out.fr) HNE.out
              obtain ⟨A3, hs3, _⟩ := HG3.out.ex
              have HS3 : Hid (KSit w3 p A3 ps Kf) := hs3
              have hov := hs3.over
              rw [HR6.out.1] at hov
              have HAG : Hid (Calls Tryd.prog 24 #[.pointer (some ⟨p, 0, none⟩)] w3 fun e w' => e = .returned (.bool true) ∧ Below w3.heap.size w3 w') := by
                have h1 := kagree w3 p A3 ps Kf hs3 (fun k => by have := HO3.out.wl k; omega)
                rw [HR6.out.2] at h1
                exact h1
              clear hs3 HG3 HF hS q2 v0
              go_wp2
              go_loopw [16] (fun kk w' => ∃ (j : Nat), j ≤ 4 ∧ kk = .int .i64 j ∧ Hid (w' = w3)) (fun kk _ => 4 - (intOf kk).toNat)
              case atStart => exact ⟨0, by omega, rfl, rfl⟩
              case round =>
                obtain ⟨j, hj, rfl, hw3⟩ := hrel
                obtain rfl := hw3.out
                have hj0 : (0 : Int) ≤ (j : Int) := by omega
                by_cases hj4 : j < 4
                · have hjI : (j : Int) < 4 := by omega
                  obtain ⟨av, cap, hwc, _⟩ := HS3.out.wcells j hj4
                  have hwv := (HS3.out.vcells j hj4).1
                  obtain ⟨g1, g2⟩ := HR8.out j hj4
                  generalize (Kf.was j).log.length = ln at hwc g1
                  generalize (Kf.was j).view = lv at hwv g2
                  have hl1 : ((ln : Int) == 0) = false := beq_eq_false_iff_ne.2 (by omega)
                  have hv1 : ¬ lv ≤ (s : Int) + 2 + 4 := by omega
                  clear g1 g2
                  go_wp2
                  go_roundw
                  case rel => exact ⟨j + 1, by omega, by go_num, by first | exact trivial | exact rfl⟩
                  case measure => simp [intOf]; omega
                · have hjI : ¬ (j : Int) < 4 := by omega
                  go_wp2_with (go_at_call 24; refine HAG.out.mono ?_; rintro e w4 ⟨rfl, hb4⟩; have HB4 : Hid (Below wr.heap.size wr w4) := hb4; clear hb4)
                  go_ret
                  exact ⟨rfl, bnext HBB.out HB4.out⟩
end Go.Proofs.YtkehpnobidendaaDoor
