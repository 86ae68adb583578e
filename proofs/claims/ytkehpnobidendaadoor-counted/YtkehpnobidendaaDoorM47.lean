/- parleykeep's awake: true, whatever the world: the plain run by the kernel. The hash's step is one to one: other members, other seals; a seal that an odd number was put upon is another one. No program in it. parleykeep's Counted: true, whatever the input. -/
import Derived.Test.YtkehpnobidendaaDoorM45
import Derived.Test.YtkehpnobidendaaDoorM46
import Derived.Test.YtkehpnobidendaaDoorM37
namespace Go.Proofs.YtkehpnobidendaaDoor
open Go.RowKit

/-! The plain run. -/
theorem awake2_ok : awake2.2 = true := by decide +kernel
theorem awake3_ok : awake3.2 = (40, true) := by decide +kernel
theorem awake_logs : ((awake3.1.w0.log.headD ⟨#[]⟩).toList == bOne.toList) = true ∧ ((awake3.1.w1.log.headD ⟨#[]⟩).toList == bOne.toList) = true ∧ ((awake3.1.w2.log.headD ⟨#[]⟩).toList == bOne.toList) = true ∧ ((awake3.1.w3.log.headD ⟨#[]⟩).toList == bOne.toList) = true := by decide +kernel
theorem awake_logn : awake3.1.w0.log.length ≠ 0 ∧ awake3.1.w1.log.length ≠ 0 ∧ awake3.1.w2.log.length ≠ 0 ∧ awake3.1.w3.log.length ≠ 0 := by decide +kernel
theorem awake_log (k : Nat) : ∃ s r, (awake3.1.was k).log = s :: r ∧ (s.toList == bOne.toList) = true := by
  have key : ∀ l : List ByteArray, l.length ≠ 0 → ((l.headD ⟨#[]⟩).toList == bOne.toList) = true → ∃ s r, l = s :: r ∧ (s.toList == bOne.toList) = true := fun l h1 h2 => by
    cases l with
    | nil => exact absurd rfl h1
    | cons s r => exact ⟨s, r, rfl, h2⟩
  unfold Clu.was
  split
  · exact key _ awake_logn.1 awake_logs.1
  · split
    · exact key _ awake_logn.2.1 awake_logs.2.1
    · split
      · exact key _ awake_logn.2.2.1 awake_logs.2.2.1
      · exact key _ awake_logn.2.2.2 awake_logs.2.2.2
theorem pick_small {k : Nat} (h : k < 4) : pickN (k : Int) 4 = k := by
  rcases (by omega : k = 0 ∨ k = 1 ∨ k = 2 ∨ k = 3) with rfl | rfl | rfl | rfl <;> decide
theorem allTick_step {K : Clu} {f k : Nat} : K.allTick (f + 1) k = if (K.ticks k).2 then (K.ticks k).1.allTick f (k + 1) else K.ticks k := rfl
/-- Where what a member had lies. -/
theorem KSit.wcells {w : World} {p : Nat} {A : Nat → Nat → Prop} {ps : List (Option Nat)} {K : Clu} (h : KSit w p A ps K) (k : Nat) (hk : k < 4) : ∃ a cap, w.cell? ⟨p, 5 + k * 4 + 3, none⟩ = some (.slice a (K.was k).log.length cap) ∧ Row w (A 0) 9 1 (.slice a (K.was k).log.length cap) (K.was k).log.length ((K.was k).log.flatMap scells) := by
  obtain ⟨vm, vl, vc, vv, l0, l1, l2, l3, vb, g1⟩ := h.k.ex
  rcases (by omega : k = 0 ∨ k = 1 ∨ k = 2 ∨ k = 3) with rfl | rfl | rfl | rfl
  · have hr : Row w (A 0) 9 1 l0 K.w0.log.length (K.w0.log.flatMap scells) := g1.row 4 _ _ _ rfl rfl rfl
    obtain ⟨am, cm, rfl⟩ := hr.isSlice
    exact ⟨am, cm, cell_at g1.box 8, hr⟩
  · have hr : Row w (A 0) 9 1 l1 K.w1.log.length (K.w1.log.flatMap scells) := g1.row 5 _ _ _ rfl rfl rfl
    obtain ⟨am, cm, rfl⟩ := hr.isSlice
    exact ⟨am, cm, cell_at g1.box 12, hr⟩
  · have hr : Row w (A 0) 9 1 l2 K.w2.log.length (K.w2.log.flatMap scells) := g1.row 6 _ _ _ rfl rfl rfl
    obtain ⟨am, cm, rfl⟩ := hr.isSlice
    exact ⟨am, cm, cell_at g1.box 16, hr⟩
  · have hr : Row w (A 0) 9 1 l3 K.w3.log.length (K.w3.log.flatMap scells) := g1.row 7 _ _ _ rfl rfl rfl
    obtain ⟨am, cm, rfl⟩ := hr.isSlice
    exact ⟨am, cm, cell_at g1.box 20, hr⟩
/-- All that the cluster is lies in new memory: what lay before lies as it lay. -/
theorem kbelow {w w1 w2 : World} {A : Nat → Nat → Prop} (hb : Below w.heap.size w w1) (hf : Fr (UA A) w1 w2) (hA : ∀ b, UA A b → w.heap.size ≤ b) : Below w.heap.size w w2 :=
  ⟨hf.os.trans hb.os, hf.tape.trans hb.tape, hf.output.trans hb.output, Nat.le_trans hb.size hf.size, fun b hb2 => (hf.block b (Nat.lt_of_lt_of_le hb2 hb.size) (fun h1 => by have := hA b h1; omega)).trans (hb.block b hb2)⟩
set_option maxRecDepth 100000 in
set_option maxHeartbeats 4000000 in
theorem kawake (w : World) (ht : Tab w) :
    Calls Tryd.prog 10 #[] w fun e w' => e = .returned (.bool true) ∧ Below w.heap.size w w' := by
  have HBG : Hid (Calls Tryd.prog 19 #[.int .i64 (-1), .int .i64 9] w fun e w' => KBegun w (-1) 9 e w') := kbegins w ht (-1) 9 (by decide) (by decide)
  go_enter Tryd.func10, Tryd.ntmps10
  go_upto_region 2 with (go_at_call 19; refine HBG.out.mono ?_; rintro e w1 ⟨p, A, ps, rfl, hs, hn, hb⟩; have HS : Hid (KSit w1 p A ps (Clu.begins (-1) 9)) := hs; have HN : Hid (∀ b, UA A b → w.heap.size ≤ b) := hn; have HB : Hid (Below w.heap.size w w1) := hb; clear hs hn hb)
  obtain ⟨g, off, cm, hgA, hc0, hci⟩ := HS.out.cells
  have hat : (Clu.begins (-1) 9).memAt 1 = some (Mem.new 1 9) := rfl
  obtain ⟨pm, hq, hpm⟩ := HS.out.some1 (i := 1) (by omega) hat
  have hc1 := hci 1 (by omega)
  rw [hq] at hc1
  dsimp only [mptr, Option.map] at hc1
  have HSU : Hid (Calls Tryd.prog 21 #[.pointer (some ⟨pm, 0, none⟩), .string ⟨#[111, 110, 101]⟩] w1 fun e w' => e = .returned (.int .i64 0) ∧ ∃ S', PMem w' pm S' ((Mem.new 1 9).submit bOne).1 ∧ Grow (A 2) w1 S' ∧ Fr (A 2) w1 w') := psubmit w1 pm (A 2) (Mem.new 1 9) hpm bOne (by decide) (by decide)
  have HPM : Hid (ps.getD 1 none = some pm) := hq
  have HK1 : Hid (KOk awake1 1) := submits_kok (begins_kok (-1) 9 (by decide) (by decide)) bOne
  have HE1 : Hid (awake1 = (Clu.begins (-1) 9).setMem 1 ((Mem.new 1 9).submit bOne).1) := rfl
  have HFL : Hid (awake3 = awake2.1.flows 0 40 ∧ awake2 = awake1.allTick 4 0) := ⟨rfl, rfl⟩
  have HA2 : Hid (awake2.2 = true) := awake2_ok
  have HA3 : Hid (awake3.2 = (40, true)) := awake3_ok
  have HLG : Hid (∀ k, ∃ s r, (awake3.1.was k).log = s :: r ∧ (s.toList == bOne.toList) = true) := awake_log
  have HK0 : Hid ((Clu.begins (-1) 9).mem.length = 4) := rfl
  clear hat hq hpm hci hgA HBG ht
  generalize awake3 = R3 at *
  generalize awake2 = R2 at *
  generalize awake1 = R1 at *
  generalize Clu.begins (-1) 9 = K0 at *
  generalize ((Mem.new 1 9).submit bOne).1 = m1 at *
  go_upto_region 5 with (go_at_call 21; refine HSU.out.mono ?_; rintro e w2 ⟨rfl, S2, hm2, hg2, hf2⟩; have HM2 : Hid (PMem w2 pm S2 m1 ∧ Grow (A 2) w1 S2 ∧ Fr (A 2) w1 w2) := ⟨hm2, hg2, hf2⟩; clear hm2 hg2 hf2)
  have HS1 : Hid (KSit w2 p (updA A 2 S2) ps R1) := by rw [HE1.out]; exact HS.out.turn HK0.out (i := 1) (by omega) HPM.out HM2.out.1 HM2.out.2.1 HM2.out.2.2
  have HG1 : Hid (Grow (UA A) w1 (UA (updA A 2 S2)) ∧ Fr (UA A) w1 w2) := ⟨grow_u (i := 2) HM2.out.2.1, fr_u (i := 2) (by omega) HM2.out.2.2⟩
  clear HS HE1 HM2 hc0 hc1 HSU HPM HK0
  go_wp2
  go_loopw [2, 4] (fun o kk wr => ∃ (k : Nat) (A1 : Nat → Nat → Prop) (K : Clu), k ≤ 4 ∧ o = .bool true ∧ kk = .int .i64 k ∧ Hid (KSit wr p A1 ps K ∧ Grow (UA A) w1 (UA A1) ∧ Fr (UA A) w1 wr) ∧ Hid (KOk K (1 + 2 * k)) ∧ Hid (R2 = K.allTick (4 - k) k)) (fun _ kk _ => 4 - (intOf kk).toNat)
  case atStart => exact ⟨0, _, R1, by omega, rfl, rfl, ⟨HS1.out, HG1.out.1, HG1.out.2⟩, HK1.out, HFL.out.2⟩
  case round =>
    clear HS1 HG1 HK1
    obtain ⟨k, A1, K, hk, rfl, rfl, hS, hO, hE⟩ := hrel
    have hk0 : (0 : Int) ≤ (k : Int) := by omega
    by_cases hk4 : k < 4
    · have hkI : (k : Int) < 4 := by omega
      have hst : (K.ticks k).2 = true ∧ R2 = (K.ticks k).1.allTick (4 - (k + 1)) (k + 1) := by
        have h1 := hE.out
        rw [show 4 - k = (4 - (k + 1)) + 1 by omega, allTick_step] at h1
        cases hb : (K.ticks k).2 with
        | true => rw [hb] at h1; exact ⟨rfl, h1⟩
        | false => rw [hb] at h1; have h2 := HA2.out; rw [h1] at h2; rw [show (if false = true then _ else K.ticks k) = K.ticks k from rfl, hb] at h2; cases h2
      have HH : Hid (Calls Tryd.prog 22 #[.pointer (some ⟨p, 0, none⟩), .agg #[.int .i64 1, .int .i64 k, .int .i64 0]] wr fun e w' => e = .returned (.bool true) ∧ KGoes wr w' p A1 ps (K.ticks k).1) := by
        have h1 := khappens1 wr p A1 ps K hS.out.1 _ hO.out (by omega) k 0 (by omega) (by omega)
        rw [pick_small hk4, hst.1] at h1
        exact h1
      have HO2 : Hid (KOk (K.ticks k).1 (1 + 2 * (k + 1))) := ticks_kok hO.out hk4
      have HE2 : Hid (R2 = (K.ticks k).1.allTick (4 - (k + 1)) (k + 1)) := hst.2
      clear hE hst
      generalize (K.ticks k).1 = K2 at *
      go_wp2_with (go_at_call 22; refine HH.out.mono ?_; rintro e w3 ⟨rfl, hg3⟩; have HG3 : Hid (KGoes wr w3 p A1 ps K2) := hg3; clear hg3)
      go_roundw
      case rel =>
        obtain ⟨A2, z1, z2⟩ := HG3.out.ex
        exact ⟨k + 1, A2, K2, by omega, rfl, by go_num, ⟨z1, hS.out.2.1.trans hS.out.2.2.size z2, hS.out.2.2.grow hS.out.2.1 HG3.out.fr⟩, HO2.out, HE2.out⟩
      case measure => simp [intOf]; omega
    · have hkI : ¬ (k : Int) < 4 := by omega
      have hke : k = 4 := by omega
      subst hke
      have hR2 : R2 = (K, true) := hE.out
      have HF : Hid (Calls Tryd.prog 23 #[.pointer (some ⟨p, 0, none⟩), .int .i64 0, .int .i64 40] wr fun e w' => e = .returned (.tuple #[.int .i64 40, .bool true]) ∧ KGoes wr w' p A1 ps R3.1) := by
        have h0 : K.flows 0 40 = R3 := by rw [HFL.out.1, hR2]
        have h1 := kflows wr p A1 ps K hS.out.1 _ hO.out 0 40 (by omega) (by omega)
        rw [h0, HA3.out] at h1
        exact h1.mono (fun e w' h => ⟨h.1, h.2.1⟩)
      clear hR2 hE HFL HA2 HA3 hO
      go_upto_region 10 with (go_at_call 23; refine HF.out.mono ?_; rintro e w3 ⟨rfl, hg3⟩; have HG3 : Hid (KGoes wr w3 p A1 ps R3.1) := hg3; clear hg3)
      have HBB : Hid (Below w.heap.size w w3) := kbelow HB.out (hS.out.2.2.grow hS.out.2.1 HG3.out.fr) HN.out
      obtain ⟨A3, hs3, _⟩ := HG3.out.ex
      have HS3 : Hid (KSit w3 p A3 ps R3.1) := hs3
      clear hs3 HG3 HF hS HB HN
      go_wp2
      go_loopw [7] (fun kk w' => ∃ (j : Nat), j ≤ 4 ∧ kk = .int .i64 j ∧ Hid (w' = w3)) (fun kk _ => 4 - (intOf kk).toNat)
      case atStart => exact ⟨0, by omega, rfl, rfl⟩
      case round =>
        obtain ⟨j, hj, rfl, hw3⟩ := hrel
        obtain rfl : wr = w3 := hw3.out
        have hj0 : (0 : Int) ≤ (j : Int) := by omega
        by_cases hj4 : j < 4
        · have hjI : (j : Int) < 4 := by omega
          obtain ⟨a, cap, hwc, hrow⟩ := HS3.out.wcells j hj4
          obtain ⟨s, r, hlog, hse⟩ := HLG.out j
          rw [hlog] at hwc hrow
          obtain ⟨gl, ol, rfl, _, hgl, hcp⟩ := hrow.place (by simp)
          have sl : ∀ x : ByteArray, (scells x).length = 1 := fun _ => rfl
          have hs0 := hrow.elem sl 0 0 (by simp) (by omega)
          have hs1 : wr.cell? ⟨gl, ol, none⟩ = some (.string s) := by simpa [scells] using hs0
          simp only [List.length_cons] at hwc
          have hrl : (0 : Int) < ((r.length + 1 : Nat) : Int) := by omega
          have hb1 : bOne.toList = [111, 110, 101] := by decide +kernel
          have hse2 : (s.toList == [111, 110, 101]) = true := by rw [← hb1]; exact hse
          have hrz : (((r.length : Nat) : Int) + 1 == 0) = false := by simp; omega
          clear hse hb1
          clear hlog hrow hs0 sl
          go_wp2
          go_roundw
          case rel => exact ⟨j + 1, by omega, by go_num, by first | exact trivial | exact rfl⟩
          case measure => simp [intOf]; omega
        · have hjI : ¬ (j : Int) < 4 := by omega
          go_wp2
          go_ret
          exact ⟨rfl, HBB.out⟩
end Go.Proofs.YtkehpnobidendaaDoor

namespace Go.Proofs.YtkehpnobidendaaDoor
open Go.RowKit

theorem mul_back (z : Int) : ((z * 1099511628211) % 18446744073709551616 * 14886173955864302971) % 18446744073709551616 = z % 18446744073709551616 := by
  have h1 : (z * 1099511628211 * 14886173955864302971) % 18446744073709551616 = ((z * 1099511628211) % 18446744073709551616 * 14886173955864302971) % 18446744073709551616 := by
    rw [Int.mul_emod (z * 1099511628211) 14886173955864302971, show (14886173955864302971 : Int) % 18446744073709551616 = 14886173955864302971 from by decide]
  rw [← h1, Int.mul_assoc, show (1099511628211 * 14886173955864302971 : Int) = 1 + 18446744073709551616 * 887285111055 from by decide, Int.mul_add, Int.mul_one, Int.mul_left_comm, Int.add_mul_emod_self_left]
theorem mul_inj {x y : Int} (hx : 0 ≤ x ∧ x < 18446744073709551616) (hy : 0 ≤ y ∧ y < 18446744073709551616) (h : (x * 1099511628211) % 18446744073709551616 = (y * 1099511628211) % 18446744073709551616) : x = y := by
  have h1 := mul_back x
  have h2 := mul_back y
  rw [h, h2] at h1
  rw [Int.emod_eq_of_lt hx.1 hx.2, Int.emod_eq_of_lt hy.1 hy.2] at h1
  exact h1.symm
theorem wrap_u64 (x : Int) : IntKind.u64.wrap x = x % 18446744073709551616 := by
  unfold IntKind.wrap
  simp only [show IntKind.u64.signed = false from rfl, show IntKind.u64.bits = 64 from rfl]
  rfl
theorem xor_eq (x y : Int) : bits BinOp.xor IntKind.u64 x y = ((BitVec.ofInt 64 x ^^^ BitVec.ofInt 64 y).toNat : Int) := by
  have h : bits BinOp.xor IntKind.u64 x y = IntKind.u64.wrap ((BitVec.ofInt 64 x ^^^ BitVec.ofInt 64 y).toNat : Int) := rfl
  rw [h, wrap_u64]
  have := (BitVec.ofInt 64 x ^^^ BitVec.ofInt 64 y).isLt
  omega
theorem ofInt_inj {x y : Int} (hx : 0 ≤ x ∧ x < 18446744073709551616) (hy : 0 ≤ y ∧ y < 18446744073709551616) (h : BitVec.ofInt 64 x = BitVec.ofInt 64 y) : x = y := by
  have h1 := congrArg BitVec.toNat h
  simp only [BitVec.toNat_ofInt] at h1
  omega
theorem xor_back (a b c : BitVec 64) (h : a ^^^ c = b ^^^ c) : a = b := by
  have := congrArg (· ^^^ c) h
  simpa [BitVec.xor_assoc] using this
theorem bv_range (a : BitVec 64) : 0 ≤ (a.toNat : Int) ∧ (a.toNat : Int) < 18446744073709551616 := by have := a.isLt; omega
theorem hstep_inj {x y : Int} (c : UInt8) (hx : 0 ≤ x ∧ x < 18446744073709551616) (hy : 0 ≤ y ∧ y < 18446744073709551616) (h : hstep x c = hstep y c) : x = y := by
  unfold hstep at h
  generalize IntKind.u64.wrap (c.toNat : Int) = d at h
  rw [xor_eq, xor_eq, wrap_u64, wrap_u64] at h
  have h1 := mul_inj (bv_range _) (bv_range _) h
  have h2 : BitVec.ofInt 64 x ^^^ BitVec.ofInt 64 d = BitVec.ofInt 64 y ^^^ BitVec.ofInt 64 d := BitVec.eq_of_toNat_eq (Int.ofNat.inj h1)
  exact ofInt_inj hx hy (xor_back _ _ _ h2)
theorem hstep_range (x : Int) (c : UInt8) : 0 ≤ hstep x c ∧ hstep x c < 18446744073709551616 := wrap_u64_range _
theorem fold_inj : ∀ (l : List UInt8) {x y : Int}, (0 ≤ x ∧ x < 18446744073709551616) → (0 ≤ y ∧ y < 18446744073709551616) → l.foldl hstep x = l.foldl hstep y → x = y
  | [], _, _, _, _, h => h
  | c :: r, _, _, hx, hy, h => hstep_inj c hx hy (fold_inj r (hstep_range _ c) (hstep_range _ c) h)
/-- Two members' seals of one vote differ. -/
theorem seal_ne (v : Int) (u : Nat) : sealOf 1 2 v u ≠ sealOf 2 2 v u := by
  intro h
  have e1 : Lib.itoa 1 = [49] := by decide +kernel
  have e2 : Lib.itoa 2 = [50] := by decide +kernel
  unfold sealOf fnv sealText at h
  rw [e1, e2] at h
  simp only [List.foldl_cons, List.cons_append, List.nil_append] at h
  have h1 := fold_inj _ (hstep_range _ _) (hstep_range _ _) h
  exact absurd h1 (by decide +kernel)
/-- An odd number put upon a seal makes another one. -/
theorem xor_ne (s off : Int) (hs : 0 ≤ s ∧ s < 18446744073709551616) : bits BinOp.xor IntKind.u64 s (bits BinOp.or IntKind.u64 off 1) ≠ s := by
  rw [xor_eq]
  intro h
  have h1 : (BitVec.ofInt 64 s ^^^ BitVec.ofInt 64 (bits BinOp.or IntKind.u64 off 1)) = BitVec.ofInt 64 s := by
    apply BitVec.eq_of_toNat_eq
    rw [BitVec.toNat_ofInt]
    omega
  have h2 : BitVec.ofInt 64 (bits BinOp.or IntKind.u64 off 1) = 0#64 := by
    have := congrArg (BitVec.ofInt 64 s ^^^ ·) h1
    simpa [← BitVec.xor_assoc] using this
  have h3 : bits BinOp.or IntKind.u64 off 1 = ((BitVec.ofInt 64 off ||| BitVec.ofInt 64 1).toNat : Int) := by
    have h : bits BinOp.or IntKind.u64 off 1 = IntKind.u64.wrap ((BitVec.ofInt 64 off ||| BitVec.ofInt 64 1).toNat : Int) := rfl
    rw [h, wrap_u64]
    have := (BitVec.ofInt 64 off ||| BitVec.ofInt 64 1).isLt
    omega
  rw [h3] at h2
  have h4 : BitVec.ofInt 64 off ||| BitVec.ofInt 64 1 = 0#64 := by
    have e : BitVec.ofInt 64 (((BitVec.ofInt 64 off ||| BitVec.ofInt 64 1).toNat : Int)) = BitVec.ofInt 64 off ||| BitVec.ofInt 64 1 := by
      apply BitVec.eq_of_toNat_eq
      rw [BitVec.toNat_ofInt]
      have := (BitVec.ofInt 64 off ||| BitVec.ofInt 64 1).isLt
      omega
    rw [← e]; exact h2
  have h5 := congrArg (fun b : BitVec 64 => b.getLsbD 0) h4
  simp at h5
end Go.Proofs.YtkehpnobidendaaDoor

namespace Go.Proofs.YtkehpnobidendaaDoor
open Go.RowKit

def xorV (off s : Int) : Int := bits BinOp.xor IntKind.u64 s (bits BinOp.or IntKind.u64 off 1)
def Crt.sl (c : Crt) (j : Nat) : Int := if j = 0 then c.s0 else if j = 1 then c.s1 else if j = 2 then c.s2 else c.s3
/-- The certificate behind i rounds: mn of its first i seals are right. -/
structure CInv (v : Int) (b : Nat) (off : Int) (c : Crt) (i mn : Nat) : Prop where
  hv : c.view = v
  hk : c.block = b
  n : cnt v b c.s0 c.s1 c.s2 c.s3 i = mn
  s : ∀ j : Nat, j < i → c.sl j = sealOf j 2 v b ∨ c.sl j = xorV off (sealOf j 2 v b)
theorem cinv_start (v : Int) (b : Nat) (off : Int) : CInv v b off ⟨v, b, 0, 0, 0, 0⟩ 0 0 := ⟨rfl, rfl, rfl, fun j h => by omega⟩
theorem sl_put (c : Crt) (i j : Nat) (hi : i < 4) (hj : j < 4) (x : Int) : (c.put i x).sl j = if j = i then x else c.sl j := by
  rcases (by omega : i = 0 ∨ i = 1 ∨ i = 2 ∨ i = 3) with rfl | rfl | rfl | rfl <;> rcases (by omega : j = 0 ∨ j = 1 ∨ j = 2 ∨ j = 3) with rfl | rfl | rfl | rfl <;> rfl
theorem cinv_step {v : Int} {b : Nat} {off : Int} {c : Crt} {i mn : Nat} (h : CInv v b off c i mn) (hi : i < 4) (x : Int) (hx : x = sealOf i 2 v b ∨ x = xorV off (sealOf i 2 v b)) : CInv v b off (c.put i x) (i + 1) (mn + hit v b i x) := by
  refine ⟨(put_keeps c i x).1.trans h.hv, (put_keeps c i x).2.trans h.hk, ?_, fun j hj => ?_⟩
  · have hn := h.n
    rcases (by omega : i = 0 ∨ i = 1 ∨ i = 2 ∨ i = 3) with rfl | rfl | rfl | rfl
    · rw [← hn]; show hit v b 0 x = 0 + hit v b _ x; rw [Nat.zero_add]; rfl
    · rw [← hn]; rfl
    · rw [← hn]; rfl
    · rw [← hn]; rfl
  · rw [sl_put c i j hi (by omega) x]
    split
    · rename_i e; subst e; exact hx
    · exact h.s j (by omega)
theorem hit_seal (v : Int) (b i : Nat) : hit v b i (sealOf i 2 v b) = 1 := hit_yes (by simp)
theorem hit_xor (v : Int) (b : Nat) (i : Nat) (off : Int) : hit v b i (xorV off (sealOf i 2 v b)) = 0 := hit_no (by
  have := xor_ne (sealOf i 2 v b) off (seal_range _ _ _ _)
  simpa [xorV] using this)
theorem seals00 : sealOf 0 2 0 0 ≠ 0 ∧ sealOf 1 2 0 0 ≠ 0 ∧ sealOf 0 2 0 0 ≠ sealOf 1 2 0 0 := by decide +kernel
theorem xor_zero (off s t : Int) (hs : 0 ≤ s ∧ s < 18446744073709551616) (ht : 0 ≤ t ∧ t < 18446744073709551616) (h1 : xorV off s = 0) (h2 : xorV off t = 0) : s = t := by
  unfold xorV at h1 h2
  rw [xor_eq] at h1 h2
  have e : BitVec.ofInt 64 s ^^^ BitVec.ofInt 64 (bits BinOp.or IntKind.u64 off 1) = BitVec.ofInt 64 t ^^^ BitVec.ofInt 64 (bits BinOp.or IntKind.u64 off 1) := BitVec.eq_of_toNat_eq (by omega)
  exact ofInt_inj hs ht (xor_back _ _ _ e)
/-- The first certificate is none of these. -/
theorem cinv_first {v : Int} {b : Nat} {off : Int} {c : Crt} {mn : Nat} (h : CInv v b off c 4 mn) : firstB v b c.s0 c.s1 c.s2 c.s3 = false := by
  cases hf : firstB v b c.s0 c.s1 c.s2 c.s3 with
  | false => rfl
  | true =>
    simp only [firstB, Bool.and_eq_true, beq_iff_eq] at hf
    obtain ⟨⟨rfl, rfl⟩, ⟨⟨h0, h1⟩, _⟩, _⟩ := hf
    have a0 := h.s 0 (by omega)
    have a1 := h.s 1 (by omega)
    have e0 : c.sl 0 = 0 := h0
    have e1 : c.sl 1 = 0 := h1
    rw [e0] at a0
    rw [e1] at a1
    have k := seals00
    rcases a0 with a0 | a0
    · exact absurd a0.symm k.1
    · rcases a1 with a1 | a1
      · exact absurd a1.symm k.2.1
      · exact absurd (xor_zero off _ _ (seal_range _ _ _ _) (seal_range _ _ _ _) a0.symm a1.symm) k.2.2
theorem cinv_good {v : Int} {b : Nat} {off : Int} {c : Crt} {mn : Nat} (h : CInv v b off c 4 mn) : goodB v b c.s0 c.s1 c.s2 c.s3 = decide ((3 : Int) ≤ (mn : Int)) := by
  rw [good_not (cinv_first h), h.n]
theorem good_zero : goodB 0 0 0 0 0 0 = true := good_first rfl
set_option maxRecDepth 100000 in
set_option maxHeartbeats 4000000 in
theorem kcounted (v : Int) (b : Nat) (off : Int) (bt : Int) (v0 : -9223372036854775808 ≤ v) (v1 : v ≤ 9223372036854775807) (hb : b < 18446744073709551616) (w : World) (ht : Tab w) :
    Calls Tryd.prog 3 #[.int .i64 v, .int .u64 b, .int .u64 off, .int .i64 bt] w fun e w' => e = .returned (.bool true) ∧ Below w.heap.size w w' := by
  have HAW : Hid (Calls Tryd.prog 10 #[] w fun e w' => e = .returned (.bool true) ∧ Below w.heap.size w w') := kawake w ht
  have HT : Hid (Tab w) := ht
  have HSE : Hid (∀ W, Tab W → ∀ (m : Int), 0 ≤ m → m ≤ 3 → Calls Tryd.prog 11 #[.int .i64 m, .int .i64 2, .int .i64 v, .int .u64 b] W fun e w' => e = .returned (.int .u64 (sealOf m 2 v b)) ∧ Below W.heap.size W w') := fun W ht m a1 a2 => pseal m 2 v b (by omega) (by omega) (by omega) (by omega) v0 v1 hb W ht.is
  have HGO : Hid (∀ W, Tab W → ∀ (s0 s1 s2 s3 : Int), Calls Tryd.prog 12 #[.agg #[.int .i64 v, .int .u64 b, .int .u64 s0, .int .u64 s1, .int .u64 s2, .int .u64 s3]] W fun e w' => e = .returned (.bool (goodB v b s0 s1 s2 s3)) ∧ Below W.heap.size W w') := fun W ht s0 s1 s2 s3 => pgood v b s0 s1 s2 s3 v0 v1 hb W ht.is
  have HGZ : Hid (∀ W, Tab W → Calls Tryd.prog 12 #[.agg #[.int .i64 0, .int .u64 0, .int .u64 0, .int .u64 0, .int .u64 0, .int .u64 0]] W fun e w' => e = .returned (.bool true) ∧ Below W.heap.size W w') := fun W ht => by
    have := pgood 0 0 0 0 0 0 (by decide) (by decide) (by decide) W ht.is
    rw [good_zero] at this
    exact this
  have HNE : Hid (sealOf 1 2 v b ≠ sealOf 2 2 v b) := seal_ne v b
  clear ht
  go_enter Tryd.func3, Tryd.ntmps3
  go_upto_region 5 with (go_at_call 10; refine HAW.out.mono ?_; rintro e w1 ⟨rfl, hb1⟩; have HB1 : Hid (Below w.heap.size w w1) := hb1; clear hb1)
  have HX1 : Hid ((w1.alloc (.cells #[.int .i64 v, .int .u64 b, .int .u64 0, .int .u64 0, .int .u64 0, .int .u64 0] 26)).heap[w1.heap.size]? = some (.cells #[.int .i64 v, .int .u64 b, .int .u64 0, .int .u64 0, .int .u64 0, .int .u64 0] 26 (0, 0))) := heap_alloc_new w1 _
  have HB2 : Hid (Below w1.heap.size w1 (w1.alloc (.cells #[.int .i64 v, .int .u64 b, .int .u64 0, .int .u64 0, .int .u64 0, .int .u64 0] 26))) := below_alloc _ _
  generalize w1.alloc (.cells #[.int .i64 v, .int .u64 b, .int .u64 0, .int .u64 0, .int .u64 0, .int .u64 0] 26) = W2 at *
  clear HAW
  go_wp2
  go_loopw [11, 12] (fun mm ii wr => ∃ (i : Nat) (cr : Crt) (mn : Nat), i ≤ 4 ∧ ii = .int .i64 i ∧ mm = .int .i64 mn ∧ mn ≤ i ∧ Hid (Below w1.heap.size w1 wr) ∧ Hid (wr.heap[w1.heap.size]? = some (.cells cr.cells.toArray 26 (0, 0))) ∧ Hid (CInv v b off cr i mn)) (fun _ ii _ => 4 - (intOf ii).toNat)
  case atStart => exact ⟨0, ⟨v, b, 0, 0, 0, 0⟩, 0, by omega, rfl, rfl, by omega, HB2.out, HX1.out, cinv_start v b off⟩
  case round =>
    clear HX1 HB2
    obtain ⟨i, ⟨rv, rb, r0, r1, r2, r3⟩, mn, hi, rfl, rfl, hmn, hbw, hX, hC⟩ := hrel
    obtain ⟨rfl, rfl⟩ : rv = v ∧ rb = b := ⟨hC.out.hv, hC.out.hk⟩
    have hi0 : (0 : Int) ≤ (i : Int) := by omega
    dsimp only [Crt.cells] at hX
    by_cases hi4 : i < 4
    · have hiI : (i : Int) < 4 := by omega
      have HTW : Hid (Tab wr) := (HT.out.below HB1.out).below hbw.out
      obtain ⟨ov, hov⟩ : ∃ ov, (#[.int .i64 rv, .int .u64 rb, .int .u64 r0, .int .u64 r1, .int .u64 r2, .int .u64 r3] : Array Value)[2 + i]? = some ov := by
        rcases (by omega : i = 0 ∨ i = 1 ∨ i = 2 ∨ i = 3) with rfl | rfl | rfl | rfl <;> exact ⟨_, rfl⟩
      have HOV : Hid ((#[.int .i64 rv, .int .u64 rb, .int .u64 r0, .int .u64 r1, .int .u64 r2, .int .u64 r3] : Array Value)[2 + i]? = some ov) := hov
      clear hov
      go_upto_region 10 with (go_at_call 11; refine (HSE.out wr HTW.out i (by omega) (by omega)).mono ?_; rintro e w5 ⟨rfl, hb5⟩; have hx5 := (hb5.block _ (lt_at hX.out)).trans hX.out; have xo : w5.cell? ⟨w1.heap.size, 2 + i, none⟩ = some ov := (cell_at hx5 (2 + i)).trans HOV.out; have xf := free_at hx5; have HX5 : Hid (w5.heap[w1.heap.size]? = some (.cells #[.int .i64 rv, .int .u64 rb, .int .u64 r0, .int .u64 r1, .int .u64 r2, .int .u64 r3] 26 (0, 0))) := hx5; have HB5 : Hid (Below wr.heap.size wr w5) := hb5; clear hb5 hx5)
      have hq6 := heap_store HX5.out (i := 2 + i) (.int .u64 (sealOf i 2 rv rb))
      have HX6 : Hid ((w5.setCell ⟨w1.heap.size, 2 + i, none⟩ (.int .u64 (sealOf i 2 rv rb))).heap[w1.heap.size]? = some (.cells (((⟨rv, rb, r0, r1, r2, r3⟩ : Crt).put i (sealOf i 2 rv rb)).cells.toArray) 26 (0, 0))) := by
        rw [putc rv rb r0 r1 r2 r3 i hi4] at hq6
        exact hq6
      have HB6 : Hid (Below w1.heap.size w1 (w5.setCell ⟨w1.heap.size, 2 + i, none⟩ (.int .u64 (sealOf i 2 rv rb)))) := (bnext hbw.out HB5.out).setCell (p := ⟨w1.heap.size, 2 + i, none⟩) (Nat.le_refl _) _
      have x6 : (w5.setCell ⟨w1.heap.size, 2 + i, none⟩ (.int .u64 (sealOf i 2 rv rb))).cell? ⟨w1.heap.size, 2 + i, none⟩ = some (.int .u64 (sealOf i 2 rv rb)) := by
        have := cell_at hq6 (2 + i)
        rw [this, Array.getElem?_setIfInBounds_self_of_lt (by simp; omega)]
      have f6 := free_at HX6.out
      clear hq6 xo xf
      generalize w5.setCell ⟨w1.heap.size, 2 + i, none⟩ (.int .u64 (sealOf i 2 rv rb)) = W6 at *
      have HC1 : Hid (CInv rv rb off ((⟨rv, rb, r0, r1, r2, r3⟩ : Crt).put i (sealOf i 2 rv rb)) (i + 1) (mn + 1)) := by
        have := cinv_step hC.out hi4 _ (.inl rfl)
        rw [hit_seal] at this
        exact this
      have HC2 : Hid (CInv rv rb off ((⟨rv, rb, r0, r1, r2, r3⟩ : Crt).put i (xorV off (sealOf i 2 rv rb))) (i + 1) mn) := by
        have := cinv_step hC.out hi4 _ (.inr rfl)
        rw [hit_xor] at this
        exact this
      have hput : ((⟨rv, rb, r0, r1, r2, r3⟩ : Crt).put i (sealOf i 2 rv rb)).put i (xorV off (sealOf i 2 rv rb)) = (⟨rv, rb, r0, r1, r2, r3⟩ : Crt).put i (xorV off (sealOf i 2 rv rb)) := by
        rcases (by omega : i = 0 ∨ i = 1 ∨ i = 2 ∨ i = 3) with rfl | rfl | rfl | rfl <;> rfl
      have HX7 : Hid ((W6.setCell ⟨w1.heap.size, 2 + i, none⟩ (.int .u64 (xorV off (sealOf i 2 rv rb)))).heap[w1.heap.size]? = some (.cells (((⟨rv, rb, r0, r1, r2, r3⟩ : Crt).put i (xorV off (sealOf i 2 rv rb))).cells.toArray) 26 (0, 0))) := by
        have hq := heap_store HX6.out (i := 2 + i) (.int .u64 (xorV off (sealOf i 2 rv rb)))
        have hk := put_keeps (⟨rv, rb, r0, r1, r2, r3⟩ : Crt) i (sealOf i 2 rv rb)
        rw [← hput]
        generalize (⟨rv, rb, r0, r1, r2, r3⟩ : Crt).put i (sealOf i 2 rv rb) = c6 at hq
        obtain ⟨d0, d1, d2, d3, d4, d5⟩ := c6
        have hp := putc d0 d1 d2 d3 d4 d5 i hi4 (xorV off (sealOf i 2 rv rb))
        dsimp only [Crt.cells] at hq hp ⊢
        rw [hp] at hq
        exact hq
      have HB7 : Hid (Below w1.heap.size w1 (W6.setCell ⟨w1.heap.size, 2 + i, none⟩ (.int .u64 (xorV off (sealOf i 2 rv rb))))) := HB6.out.setCell (p := ⟨w1.heap.size, 2 + i, none⟩) (Nat.le_refl _) _
      unfold xorV at HX7 HB7
      clear hput
      go_wp2
      · go_roundw
        case rel => exact ⟨i + 1, _, mn, by omega, by go_num, rfl, by omega, HB7.out, HX7.out, HC2.out⟩
        case measure => simp [intOf]; omega
      · go_roundw
        case rel => exact ⟨i + 1, _, mn + 1, by omega, by go_num, by go_num, by omega, HB6.out, HX6.out, HC1.out⟩
        case measure => simp [intOf]; omega
    · have hiI : ¬ (i : Int) < 4 := by omega
      have hie : i = 4 := by omega
      subst hie
      have HTW : Hid (Tab wr) := (HT.out.below HB1.out).below hbw.out
      have hg := cinv_good hC.out
      have e0 := cell_at hX.out 0
      have e1 := cell_at hX.out 1
      have e2 := cell_at hX.out 2
      have e3 := cell_at hX.out 3
      have e4 := cell_at hX.out 4
      have e5 := cell_at hX.out 5
      simp at e0 e1 e2 e3 e4 e5
      dsimp only at hg
      have HG1 : Hid (Calls Tryd.prog 12 #[.agg #[.int .i64 rv, .int .u64 rb, .int .u64 r0, .int .u64 r1, .int .u64 r2, .int .u64 r3]] wr fun e w' => e = .returned (.bool (decide ((3 : Int) ≤ (mn : Int)))) ∧ Below wr.heap.size wr w') := by
        have := HGO.out wr HTW.out r0 r1 r2 r3
        rw [hg] at this
        exact this
      have hneb : (sealOf 1 2 rv rb != sealOf 2 2 rv rb) = true := by simp; exact HNE.out
      have HBW : Hid (Below w.heap.size w wr) := bnext HB1.out hbw.out
      clear hg hC hX
      go_upto_region 14 with (go_at_call 12; refine HG1.out.mono ?_; rintro e w2 ⟨rfl, hb2⟩; have HC2 : Hid (Below wr.heap.size wr w2) := hb2; clear hb2)
      have HT2 : Hid (Tab w2) := HTW.out.below HC2.out
      go_upto_region 15 with (go_at_call 12; refine (HGZ.out w2 HT2.out).mono ?_; rintro e w3 ⟨rfl, hb3⟩; have HC3 : Hid (Below w2.heap.size w2 w3) := hb3; clear hb3)
      have HT3 : Hid (Tab w3) := HT2.out.below HC3.out
      go_upto_region 16 with (go_at_call 11; refine (HSE.out w3 HT3.out 1 (by omega) (by omega)).mono ?_; rintro e w4 ⟨rfl, hb4⟩; have HC4 : Hid (Below w3.heap.size w3 w4) := hb4; clear hb4)
      have HT4 : Hid (Tab w4) := HT3.out.below HC4.out
      by_cases h3 : (3 : Int) ≤ (mn : Int)
      all_goals (
        go_wp2_with (go_at_call 11; refine (HSE.out w4 HT4.out 2 (by omega) (by omega)).mono ?_; rintro e w5 ⟨rfl, hb5⟩; have HC5 : Hid (Below w4.heap.size w4 w5) := hb5; clear hb5)
        go_ret
        exact ⟨by simp_all, bnext (bnext (bnext (bnext HBW.out HC2.out) HC3.out) HC4.out) HC5.out⟩)
end Go.Proofs.YtkehpnobidendaaDoor
