/- parleykeep's happens, of a tick. parleykeep's flows. -/
import Derived.Test.YtkehpnobidendaaDoorM43
import Derived.Test.YtkehpnobidendaaDoorM44
namespace Go.Proofs.YtkehpnobidendaaDoor
open Go.RowKit

set_option maxRecDepth 100000 in
set_option maxHeartbeats 4000000 in
theorem khappens1 (w : World) (p : Nat) (A : Nat → Nat → Prop) (ps : List (Option Nat)) (K : Clu) (h : KSit w p A ps K) (n : Nat) (ok : KOk K n) (hn : n ≤ 1600000000) (a b : Int) (a0 : -9223372036854775808 ≤ a) (a1 : a ≤ 9223372036854775807) :
    Calls Tryd.prog 22 #[.pointer (some ⟨p, 0, none⟩), .agg #[.int .i64 1, .int .i64 a, .int .i64 b]] w fun e w' => e = .returned (.bool (K.ticks (pickN a 4)).2) ∧ KGoes w w' p A ps (K.ticks (pickN a 4)).1 := by
  have HPI : Hid (∀ W, Calls Tryd.prog 13 #[.int .i64 a, .int .i64 4] W fun e w' => e = .returned (.int .i64 (pickN a 4)) ∧ W = w') := fun W => (kpick a 4 a0 a1 (by decide) (by decide) W).mono (fun _ _ h => ⟨h.1, h.2.symm⟩)
  have hk := pickN_lt a 4 (by decide)
  generalize pickN a 4 = k at hk HPI ⊢
  obtain ⟨g, off, cm, hgA, hc0, hci⟩ := h.cells
  have hg : g < w.heap.size := h.lt 0 g (by omega) hgA
  have hpl : p < w.heap.size := h.k.lt
  have hck := hci k hk
  have hk0 : (0 : Int) ≤ (k : Int) := by omega
  have hk1 : (k : Int) < 4 := by omega
  cases hm : K.memAt k with
  | none =>
    have hq := h.nil hk hm
    rw [hq] at hck
    have HR : Hid (K.ticks k = (K, true)) := by show _ = _; unfold Clu.ticks; rw [hm]
    have HK : Hid (KSit w p A ps K) := h
    dsimp only [mptr, Option.map] at hck
    have d0 := (Below.cell (p := ⟨p, 0, none⟩) (below_alloc w (.cells #[.int .i64 1, .int .i64 a, .int .i64 b] 66)) hpl).trans hc0
    have d1 := (Below.cell (p := ⟨g, off + k, none⟩) (below_alloc w (.cells #[.int .i64 1, .int .i64 a, .int .i64 b] 66)) hg).trans hck
    clear h hm hq ok hci hgA hc0 hck
    go_enter Tryd.func22, Tryd.ntmps22
    go_wp2_with (go_at_call 13; refine (HPI.out _).mono ?_; rintro e w1 ⟨rfl, rfl⟩)
    go_ret
    rw [HR.out]
    exact ⟨rfl, ⟨⟨A, HK.out.below (below_alloc _ _), Grow.refl _ _⟩, Fr.of_below (below_alloc _ _)⟩⟩
  | some m =>
    obtain ⟨pm, hq, hpm⟩ := h.some1 hk hm
    rw [hq] at hck
    dsimp only [mptr, Option.map] at hck
    have hmo := ok.at' hm
    have HR : Hid (K.ticks k = K.after k m.tick.1 m.tick.2) := by show _ = _; unfold Clu.ticks; rw [hm]
    obtain ⟨W1, hW1⟩ : ∃ y, y = w.alloc (.cells #[.int .i64 1, .int .i64 a, .int .i64 b] 66) := ⟨_, rfl⟩
    have HB1 : Hid (Below w.heap.size w W1) := by rw [hW1]; exact below_alloc _ _
    have hx1 : W1.heap[w.heap.size]? = some (.cells #[.int .i64 1, .int .i64 a, .int .i64 b] 66 (0, 0)) := by rw [hW1]; exact heap_alloc_new w _
    have x0 := cell_at hx1 0
    have x1 := cell_at hx1 1
    simp at x0 x1
    have HK1 : Hid (KSit W1 p A ps K) := h.below HB1.out
    have HOK : Hid (KOk K n) := ok
    have HP : Hid (ps.getD k none = some pm) := hq
    have HM : Hid (MOk m.tick.1 (n + 2) ∧ (∀ l ∈ m.tick.2, l.Ok) ∧ m.tick.2.length ≤ 2) := ⟨mok_tick hmo, tick_ok hmo.iv, tick_out m⟩
    have HH : Hid (Calls Tryd.prog 15 #[.pointer (some ⟨pm, 0, none⟩)] W1 fun e w' => ∃ v, e = .returned v ∧ PGave W1 w' pm (A (k + 1)) m.tick.1 v m.tick.2) := by
      have e1 := hmo.w
      have e2 := hmo.e
      have e3 := hmo.b
      exact ptick W1 pm (A (k + 1)) m (hpm.below HB1.out) hmo.iv hmo.i2.eo (by omega) (by omega) (by omega)
    have d0 := (HB1.out.cell (p := ⟨p, 0, none⟩) hpl).trans hc0
    have d1 := (HB1.out.cell (p := ⟨g, off + k, none⟩) hg).trans hck
    clear h hpm hmo hq ok hci hgA hc0 hck hm hx1
    obtain ⟨M, hMM⟩ : ∃ y, y = m.tick := ⟨_, rfl⟩
    rw [← hMM] at HR HM HH
    clear hMM
    obtain ⟨m', out⟩ := M
    dsimp only at HR HM HH
    go_enter Tryd.func22, Tryd.ntmps22
    go_upto_region 1 with fail
    rw [← hW1]
    clear hW1
    go_upto_region 7 with (first
      | (go_at_call 13; refine (HPI.out _).mono ?_; rintro e w1 ⟨rfl, rfl⟩)
      | (go_at_call 15; refine HH.out.mono ?_; rintro e wc ⟨v, rfl, hg5⟩; obtain ⟨ca, cap, rfl, hrow⟩ := hg5.row; have HPM : Hid (PMem wc pm (A (k + 1)) m' ∧ Fr (A (k + 1)) W1 wc) := ⟨hg5.pm, hg5.fr⟩; have HRW : Hid (Row wc (fun k => W1.heap.size ≤ k) 42 20 (.slice ca out.length cap) out.length (out.flatMap Ltr.cells)) := hrow; clear hg5 hrow))
    have hgm : Grow (A (k + 1)) W1 (A (k + 1)) := Grow.refl _ _
    have HSE : Hid (Calls Tryd.prog 38 #[.pointer (some ⟨p, 0, none⟩), .int .i64 k, .slice ca out.length cap] wc fun e w' => e = .returned (.bool ((K.setMem k m').sends k out).2) ∧ ∃ S', KMem w' p S' ps ((K.setMem k m').sends k out).1 ∧ Grow (A 0) wc S' ∧ Fr (A 0) wc w') := ksends_at HK1.out HOK.out hn hk HP.out HPM.out.1 hgm HPM.out.2 HM.out.2.1 HM.out.2.2 ca cap _ HRW.out (fun b hb => hb)
    have HST : Hid (∀ w2 S1, KMem w2 p S1 ps ((K.setMem k m').sends k out).1 → Fr (A 0) wc w2 → Calls Tryd.prog 26 #[.pointer (some ⟨p, 0, none⟩), .int .i64 k] w2 fun e w' => e = .returned (.bool ((((K.setMem k m').sends k out).1.was k).grows m'.sta)) ∧ ∃ S', KMem w' p S' ps (K.after k m' out).1 ∧ Grow S1 w2 S' ∧ Fr S1 w2 w') := fun w2 S1 h1 f1 => ksteady_at HK1.out HOK.out hn hk HP.out HPM.out.1 hgm HPM.out.2 HM.out.2.1 HM.out.1 h1 f1
    have HMC : Hid (((K.setMem k m').sends k out).1.mem = (K.setMem k m').mem) := (sends_sent (k : Int) ⟨by omega, by omega⟩ out (K.setMem k m') n ⟨HOK.out.ok.bl, HOK.out.ok.vt, HOK.out.ok.l0, HOK.out.ok.l1⟩ ⟨HOK.out.len.lt, HOK.out.len.ct, HOK.out.len.vt, HOK.out.len.bl⟩ HM.out.2.1).ck.m
    have HE : Hid ((K.after k m' out).2 = (((K.setMem k m').sends k out).2 && (((K.setMem k m').sends k out).1.was k).grows m'.sta)) := rfl
    generalize ((K.setMem k m').sends k out).2 = b1 at HSE HE
    generalize (((K.setMem k m').sends k out).1.was k).grows m'.sta = b2 at HST HE
    clear d0 d1 hgm
    go_wp2_with (first
      | (go_at_call 38; refine HSE.out.mono ?_; rintro e w6 ⟨rfl, S6, hm6, hg6, hf6⟩; have HM6 : Hid (KMem w6 p S6 ps ((K.setMem k m').sends k out).1 ∧ Grow (A 0) wc S6 ∧ Fr (A 0) wc w6) := ⟨hm6, hg6, hf6⟩; clear hm6 hg6 hf6)
      | (go_at_call 26; refine (HST.out w6 S6 HM6.out.1 HM6.out.2.2).mono ?_; rintro e w7 ⟨rfl, S7, hm7, hg7, hf7⟩; have HM7 : Hid (KMem w7 p S7 ps (K.after k m' out).1 ∧ Grow S6 w6 S7 ∧ Fr S6 w6 w7) := ⟨hm7, hg7, hf7⟩; clear hm7 hg7 hf7))
    all_goals (
      go_ret
      rw [HR.out]
      refine ⟨by rw [HE.out]; simp_all, kgoes_below HB1.out (ksit_after HK1.out HOK.out hk HP.out HPM.out.1 (Grow.refl _ _) HPM.out.2 HM6.out.1 HM6.out.2.1 HM6.out.2.2 HMC.out HM7.out.1 HM7.out.2.1 HM7.out.2.2)⟩)
end Go.Proofs.YtkehpnobidendaaDoor

namespace Go.Proofs.YtkehpnobidendaaDoor
open Go.RowKit
attribute [local go_sem ↓] pload_msg ld_ltr put_ltr

theorem flows_step {K : Clu} {at1 n : Nat} (h : at1 < K.letters.length) : K.flows at1 (n + 1) = if (K.goes K.letters[at1] 4 0).2 then (K.goes K.letters[at1] 4 0).1.flows (at1 + 1) n else ((K.goes K.letters[at1] 4 0).1, at1 + 1, false) := by
  rw [Clu.flows, List.getElem?_eq_getElem h]
theorem flows_end {K : Clu} {at1 : Nat} : ∀ {n : Nat}, (n = 0 ∨ K.letters.length ≤ at1) → K.flows at1 n = (K, at1, true)
  | 0, _ => rfl
  | n + 1, h => by
    rw [Clu.flows, List.getElem?_eq_none (by omega)]
theorem goes_hit {K : Clu} {l : Ltr} {f k : Nat} (h : l.to = (k : Int) ∨ l.to < 0) : K.goes l (f + 1) k = if (K.comes k l.msg).2 then (K.comes k l.msg).1.goes l f (k + 1) else K.comes k l.msg := by
  rw [Clu.goes, if_pos h]
theorem goes_miss {K : Clu} {l : Ltr} {f k : Nat} (h : ¬ (l.to = (k : Int) ∨ l.to < 0)) : K.goes l (f + 1) k = K.goes l f (k + 1) := by
  rw [Clu.goes, if_neg h]
/-- Where the cluster's letters lie. -/
theorem KSit.lcells {w : World} {p : Nat} {A : Nat → Nat → Prop} {ps : List (Option Nat)} {K : Clu} (h : KSit w p A ps K) : ∃ a cap, w.cell? ⟨p, 2, none⟩ = some (.slice a K.letters.length cap) ∧ Row w (A 0) 42 20 (.slice a K.letters.length cap) K.letters.length (K.letters.flatMap Ltr.cells) := by
  obtain ⟨vm, vl, vc, vv, l0, l1, l2, l3, vb, g1⟩ := h.k.ex
  have hr : Row w (A 0) 42 20 vl K.letters.length (K.letters.flatMap Ltr.cells) := g1.row 1 _ _ _ rfl rfl rfl
  obtain ⟨am, cm, rfl⟩ := hr.isSlice
  exact ⟨am, cm, cell_at g1.box 2, hr⟩
set_option maxRecDepth 100000 in
set_option maxHeartbeats 8000000 in
theorem kflows (w : World) (p : Nat) (A : Nat → Nat → Prop) (ps : List (Option Nat)) (K : Clu) (h : KSit w p A ps K) (n : Nat) (ok : KOk K n) (at1 most : Nat) (hn : n + 8 * most ≤ 1600000000) (ha : at1 ≤ 1600000000) :
    Calls Tryd.prog 23 #[.pointer (some ⟨p, 0, none⟩), .int .i64 at1, .int .i64 most] w fun e w' => e = .returned (.tuple #[.int .i64 (K.flows at1 most).2.1, .bool (K.flows at1 most).2.2]) ∧ KGoes w w' p A ps (K.flows at1 most).1 ∧ KOk (K.flows at1 most).1 (n + 8 * most) := by
  have HK : Hid (KSit w p A ps K) := h
  have HOK : Hid (KOk K n) := ok
  clear h ok
  have hm1 : (most : Int) ≤ 1600000000 := by omega
  have hm0 : (0 : Int) ≤ (most : Int) := by omega
  go_enter Tryd.func23, Tryd.ntmps23
  go_wp2
  go_loopw [1, 8] (fun ai ii wr => ∃ (i t : Nat) (A1 : Nat → Nat → Prop) (K1 : Clu), i ≤ most ∧ Hid (t = at1 + i) ∧ ai = .int .i64 (t : Int) ∧ ii = .int .i64 i ∧ Hid (KSit wr p A1 ps K1 ∧ Grow (UA A) w (UA A1) ∧ Fr (UA A) w wr) ∧ Hid (KOk K1 (n + 8 * i)) ∧ Hid (K.flows at1 most = K1.flows t (most - i))) (fun _ ii _ => most - (intOf ii).toNat)
  case atStart => exact ⟨0, at1, A, K, by omega, rfl, rfl, rfl, ⟨HK.out, Grow.refl _ _, Fr.refl _ _⟩, HOK.out, rfl⟩
  case round =>
      obtain ⟨i, t, A1, K1, hi, HT, rfl, rfl, hS1, hO1, hE1⟩ := hrel
      obtain ⟨al, cl, q2, hrow⟩ := hS1.out.1.lcells
      have hll : K1.letters.length ≤ 1600000000 := by have := hO1.out.len.lt; omega
      have hlI : (K1.letters.length : Int) ≤ 1600000000 := by omega
      have hi0 : (0 : Int) ≤ (i : Int) := by omega
      have ha0 : (0 : Int) ≤ (t : Int) := by omega
      have ha1 : (t : Int) ≤ 3200000000 := by have := HT.out; omega
      by_cases him : i < most
      rotate_left
      · have HX : Hid (K.flows at1 most = (K1, t, true)) := by show _ = _; rw [hE1.out, flows_end (.inl (by omega))]
        have hiI : ¬ (i : Int) < (most : Int) := by omega
        go_wp2
        go_ret2
        rw [HX.out]
        exact ⟨rfl, ⟨⟨A1, hS1.out.1, hS1.out.2.1⟩, hS1.out.2.2⟩, hO1.out.mono (by omega)⟩
      have hiI : (i : Int) < (most : Int) := by omega
      by_cases hal : t < K1.letters.length
      rotate_left
      · have HX : Hid (K.flows at1 most = (K1, t, true)) := by show _ = _; rw [hE1.out, flows_end (.inr (by omega))]
        have haI : ¬ (t : Int) < (K1.letters.length : Int) := by omega
        go_wp2
        go_ret2
        rw [HX.out]
        exact ⟨rfl, ⟨⟨A1, hS1.out.1, hS1.out.2.1⟩, hS1.out.2.2⟩, hO1.out.mono (by omega)⟩
      have haI : (t : Int) < (K1.letters.length : Int) := by omega
      obtain ⟨g, off, rfl, hSg, hg, hcap⟩ := hrow.place (by omega)
      have HST : Hid (K.flows at1 most = if (K1.goes K1.letters[t] 4 0).2 then (K1.goes K1.letters[t] 4 0).1.flows (t + 1) (most - (i + 1)) else ((K1.goes K1.letters[t] 4 0).1, t + 1, false)) := by
        show _ = _
        rw [hE1.out, show most - i = (most - (i + 1)) + 1 by omega, flows_step hal]
      have HLO : Hid (Ltr.Ok K1.letters[t]) := hO1.out.lt _ (List.getElem_mem hal)
      have hel := hrow.elemAt (show ∀ l : Ltr, l.cells.length = 20 from fun _ => rfl) t hal
      clear hE1
      generalize K1.letters[t] = l at HST HLO hel
      obtain ⟨l0, ⟨xk, xf, xv, ⟨bv, ⟨jv, jb, j0, j1, j2, j3⟩, bc⟩, nu, ⟨cv, cb, k0, k1, k2, k3⟩, sl⟩⟩ := l
      have hlw : (rowVar 42 ⟨g, off + t * 20, none⟩).run Tryd.prog wr = .ok (.agg #[.int .i64 l0, .int .i64 xk, .int .i64 xf, .int .i64 xv, .int .i64 bv, .int .i64 jv, .int .u64 jb, .int .u64 j0, .int .u64 j1, .int .u64 j2, .int .u64 j3, .string bc, .int .u64 nu, .int .i64 cv, .int .u64 cb, .int .u64 k0, .int .u64 k1, .int .u64 k2, .int .u64 k3, .int .u64 sl]) wr := rowVar_mid wr g (off + t * 20) _ (Ltr.cells ⟨l0, ⟨xk, xf, xv, ⟨bv, ⟨jv, jb, j0, j1, j2, j3⟩, bc⟩, nu, ⟨cv, cb, k0, k1, k2, k3⟩, sl⟩⟩) _ hel Tryd.underlying42 rfl ltr_size20
      have hpu : (rowPut 42 ⟨wr.heap.size, 0, none⟩ (.agg #[.int .i64 l0, .int .i64 xk, .int .i64 xf, .int .i64 xv, .int .i64 bv, .int .i64 jv, .int .u64 jb, .int .u64 j0, .int .u64 j1, .int .u64 j2, .int .u64 j3, .string bc, .int .u64 nu, .int .i64 cv, .int .u64 cb, .int .u64 k0, .int .u64 k1, .int .u64 k2, .int .u64 k3, .int .u64 sl])).run Tryd.prog (wr.alloc (.cells #[.int .i64 0, .int .i64 0, .int .i64 0, .int .i64 0, .int .i64 0, .int .i64 0, .int .u64 0, .int .u64 0, .int .u64 0, .int .u64 0, .int .u64 0, .string ⟨#[]⟩, .int .u64 0, .int .i64 0, .int .u64 0, .int .u64 0, .int .u64 0, .int .u64 0, .int .u64 0, .int .u64 0] 42)) = .ok () ((wr.alloc (.cells #[.int .i64 0, .int .i64 0, .int .i64 0, .int .i64 0, .int .i64 0, .int .i64 0, .int .u64 0, .int .u64 0, .int .u64 0, .int .u64 0, .int .u64 0, .string ⟨#[]⟩, .int .u64 0, .int .i64 0, .int .u64 0, .int .u64 0, .int .u64 0, .int .u64 0, .int .u64 0, .int .u64 0] 42)).setCells wr.heap.size 0 [.int .i64 l0, .int .i64 xk, .int .i64 xf, .int .i64 xv, .int .i64 bv, .int .i64 jv, .int .u64 jb, .int .u64 j0, .int .u64 j1, .int .u64 j2, .int .u64 j3, .string bc, .int .u64 nu, .int .i64 cv, .int .u64 cb, .int .u64 k0, .int .u64 k1, .int .u64 k2, .int .u64 k3, .int .u64 sl]) := rowPut_mid _ wr.heap.size 0 42 #[.int .i64 l0, .int .i64 xk, .int .i64 xf, .int .i64 xv, .int .i64 bv, .int .i64 jv, .int .u64 jb, .int .u64 j0, .int .u64 j1, .int .u64 j2, .int .u64 j3, .string bc, .int .u64 nu, .int .i64 cv, .int .u64 cb, .int .u64 k0, .int .u64 k1, .int .u64 k2, .int .u64 k3, .int .u64 sl] (LHeld.start0 wr _ rfl _) ltr_size20 (by simp [Value.oneCell'])
      have HB2 : Hid (Below wr.heap.size wr ((wr.alloc (.cells #[.int .i64 0, .int .i64 0, .int .i64 0, .int .i64 0, .int .i64 0, .int .i64 0, .int .u64 0, .int .u64 0, .int .u64 0, .int .u64 0, .int .u64 0, .string ⟨#[]⟩, .int .u64 0, .int .i64 0, .int .u64 0, .int .u64 0, .int .u64 0, .int .u64 0, .int .u64 0, .int .u64 0] 42)).setCells wr.heap.size 0 [.int .i64 l0, .int .i64 xk, .int .i64 xf, .int .i64 xv, .int .i64 bv, .int .i64 jv, .int .u64 jb, .int .u64 j0, .int .u64 j1, .int .u64 j2, .int .u64 j3, .string bc, .int .u64 nu, .int .i64 cv, .int .u64 cb, .int .u64 k0, .int .u64 k1, .int .u64 k2, .int .u64 k3, .int .u64 sl])) := below_setCells (Nat.le_refl _) _ _ _ (below_alloc _ _)
      have HRG : Hid (((wr.alloc (.cells #[.int .i64 0, .int .i64 0, .int .i64 0, .int .i64 0, .int .i64 0, .int .i64 0, .int .u64 0, .int .u64 0, .int .u64 0, .int .u64 0, .int .u64 0, .string ⟨#[]⟩, .int .u64 0, .int .i64 0, .int .u64 0, .int .u64 0, .int .u64 0, .int .u64 0, .int .u64 0, .int .u64 0] 42)).setCells wr.heap.size 0 [.int .i64 l0, .int .i64 xk, .int .i64 xf, .int .i64 xv, .int .i64 bv, .int .i64 jv, .int .u64 jb, .int .u64 j0, .int .u64 j1, .int .u64 j2, .int .u64 j3, .string bc, .int .u64 nu, .int .i64 cv, .int .u64 cb, .int .u64 k0, .int .u64 k1, .int .u64 k2, .int .u64 k3, .int .u64 sl]).rangeAt wr.heap.size 0 [.int .i64 l0, .int .i64 xk, .int .i64 xf, .int .i64 xv, .int .i64 bv, .int .i64 jv, .int .u64 jb, .int .u64 j0, .int .u64 j1, .int .u64 j2, .int .u64 j3, .string bc, .int .u64 nu, .int .i64 cv, .int .u64 cb, .int .u64 k0, .int .u64 k1, .int .u64 k2, .int .u64 k3, .int .u64 sl]) := World.rangeAt_setCells_same (wr.alloc (.cells #[.int .i64 0, .int .i64 0, .int .i64 0, .int .i64 0, .int .i64 0, .int .i64 0, .int .u64 0, .int .u64 0, .int .u64 0, .int .u64 0, .int .u64 0, .string ⟨#[]⟩, .int .u64 0, .int .i64 0, .int .u64 0, .int .u64 0, .int .u64 0, .int .u64 0, .int .u64 0, .int .u64 0] 42)) wr.heap.size 0 [.int .i64 l0, .int .i64 xk, .int .i64 xf, .int .i64 xv, .int .i64 bv, .int .i64 jv, .int .u64 jb, .int .u64 j0, .int .u64 j1, .int .u64 j2, .int .u64 j3, .string bc, .int .u64 nu, .int .i64 cv, .int .u64 cb, .int .u64 k0, .int .u64 k1, .int .u64 k2, .int .u64 k3, .int .u64 sl] (LHeld.start0 wr _ rfl _)
      have HSZ : Hid (wr.heap.size < ((wr.alloc (.cells #[.int .i64 0, .int .i64 0, .int .i64 0, .int .i64 0, .int .i64 0, .int .i64 0, .int .u64 0, .int .u64 0, .int .u64 0, .int .u64 0, .int .u64 0, .string ⟨#[]⟩, .int .u64 0, .int .i64 0, .int .u64 0, .int .u64 0, .int .u64 0, .int .u64 0, .int .u64 0, .int .u64 0] 42)).setCells wr.heap.size 0 [.int .i64 l0, .int .i64 xk, .int .i64 xf, .int .i64 xv, .int .i64 bv, .int .i64 jv, .int .u64 jb, .int .u64 j0, .int .u64 j1, .int .u64 j2, .int .u64 j3, .string bc, .int .u64 nu, .int .i64 cv, .int .u64 cb, .int .u64 k0, .int .u64 k1, .int .u64 k2, .int .u64 k3, .int .u64 sl]).heap.size) := by
        have h1 : (wr.alloc (.cells #[.int .i64 0, .int .i64 0, .int .i64 0, .int .i64 0, .int .i64 0, .int .i64 0, .int .u64 0, .int .u64 0, .int .u64 0, .int .u64 0, .int .u64 0, .string ⟨#[]⟩, .int .u64 0, .int .i64 0, .int .u64 0, .int .u64 0, .int .u64 0, .int .u64 0, .int .u64 0, .int .u64 0] 42)).heap.size ≤ ((wr.alloc (.cells #[.int .i64 0, .int .i64 0, .int .i64 0, .int .i64 0, .int .i64 0, .int .i64 0, .int .u64 0, .int .u64 0, .int .u64 0, .int .u64 0, .int .u64 0, .string ⟨#[]⟩, .int .u64 0, .int .i64 0, .int .u64 0, .int .u64 0, .int .u64 0, .int .u64 0, .int .u64 0, .int .u64 0] 42)).setCells wr.heap.size 0 [.int .i64 l0, .int .i64 xk, .int .i64 xf, .int .i64 xv, .int .i64 bv, .int .i64 jv, .int .u64 jb, .int .u64 j0, .int .u64 j1, .int .u64 j2, .int .u64 j3, .string bc, .int .u64 nu, .int .i64 cv, .int .u64 cb, .int .u64 k0, .int .u64 k1, .int .u64 k2, .int .u64 k3, .int .u64 sl]).heap.size := (Fr.setCells (S := fun _ => True) trivial _ _ _).size
        simp only [World.size_alloc] at h1
        show _ < _
        omega
      obtain ⟨X, hX⟩ : ∃ X, X = (wr.alloc (.cells #[.int .i64 0, .int .i64 0, .int .i64 0, .int .i64 0, .int .i64 0, .int .i64 0, .int .u64 0, .int .u64 0, .int .u64 0, .int .u64 0, .int .u64 0, .string ⟨#[]⟩, .int .u64 0, .int .i64 0, .int .u64 0, .int .u64 0, .int .u64 0, .int .u64 0, .int .u64 0, .int .u64 0] 42)).setCells wr.heap.size 0 [.int .i64 l0, .int .i64 xk, .int .i64 xf, .int .i64 xv, .int .i64 bv, .int .i64 jv, .int .u64 jb, .int .u64 j0, .int .u64 j1, .int .u64 j2, .int .u64 j3, .string bc, .int .u64 nu, .int .i64 cv, .int .u64 cb, .int .u64 k0, .int .u64 k1, .int .u64 k2, .int .u64 k3, .int .u64 sl] := ⟨_, rfl⟩
      rw [← hX] at hpu HB2 HRG HSZ
      go_upto_region 6 with fail
      rw [← hX]
      clear hX hpu hlw hel hcap hSg hg hrow q2
      have HKX : Hid (KSit X p A1 ps K1) := hS1.out.1.below HB2.out
      have HNB : Hid (¬ UA A1 wr.heap.size) := by
        rintro ⟨j, hj, hb⟩
        have := hS1.out.1.lt j _ hj hb
        omega
      have HGX : Hid (Grow (UA A) w (UA A1) ∧ Fr (UA A) w X) := ⟨hS1.out.2.1, hS1.out.2.2.trans (Fr.of_below (S := UA A) HB2.out) (fun _ h => .inl h)⟩
      generalize wr.heap.size = B at HRG HSZ HNB ⊢
      clear HB2
      have HLM : Hid (∀ W, Fr (UA A1) X W → W.cell? ⟨B, 0, none⟩ = some (.int .i64 l0) ∧ (rowVar 40 ⟨B, 1, none⟩).run Tryd.prog W = .ok (.agg #[.int .i64 xk, .int .i64 xf, .int .i64 xv, .int .i64 bv, .int .i64 jv, .int .u64 jb, .int .u64 j0, .int .u64 j1, .int .u64 j2, .int .u64 j3, .string bc, .int .u64 nu, .int .i64 cv, .int .u64 cb, .int .u64 k0, .int .u64 k1, .int .u64 k2, .int .u64 k3, .int .u64 sl]) W) := fun W hW => by
        have hc : ∀ j v, ([.int .i64 l0, .int .i64 xk, .int .i64 xf, .int .i64 xv, .int .i64 bv, .int .i64 jv, .int .u64 jb, .int .u64 j0, .int .u64 j1, .int .u64 j2, .int .u64 j3, .string bc, .int .u64 nu, .int .i64 cv, .int .u64 cb, .int .u64 k0, .int .u64 k1, .int .u64 k2, .int .u64 k3, .int .u64 sl] : List Value)[j]? = some v → W.cell? ⟨B, 0 + j, none⟩ = some v := fun j v hv => by
          rw [World.cell?_of_block (hW.block B HSZ.out HNB.out)]; exact HRG.out j v hv
        refine ⟨hc 0 _ rfl, ?_⟩
        refine rowVar_mid W B 1 40 [.int .i64 xk, .int .i64 xf, .int .i64 xv, .int .i64 bv, .int .i64 jv, .int .u64 jb, .int .u64 j0, .int .u64 j1, .int .u64 j2, .int .u64 j3, .string bc, .int .u64 nu, .int .i64 cv, .int .u64 cb, .int .u64 k0, .int .u64 k1, .int .u64 k2, .int .u64 k3, .int .u64 sl] _ (fun j v hv => ?_) Tryd.underlying40 rfl (by kernel_rfl)
        have := hc (1 + j) v (by rw [Nat.add_comm]; exact hv)
        rwa [Nat.zero_add] at this
      go_wp2
      go_loopw [10] (fun kk w' => ∃ (k : Nat) (A2 : Nat → Nat → Prop) (K2 : Clu), k ≤ 4 ∧ kk = .int .i64 k ∧ Hid (KSit w' p A2 ps K2 ∧ Grow (UA A1) X (UA A2) ∧ Fr (UA A1) X w') ∧ Hid (KOk K2 (n + 8 * i + 2 * k)) ∧ Hid (K1.goes ⟨l0, ⟨xk, xf, xv, ⟨bv, ⟨jv, jb, j0, j1, j2, j3⟩, bc⟩, nu, ⟨cv, cb, k0, k1, k2, k3⟩, sl⟩⟩ 4 0 = K2.goes ⟨l0, ⟨xk, xf, xv, ⟨bv, ⟨jv, jb, j0, j1, j2, j3⟩, bc⟩, nu, ⟨cv, cb, k0, k1, k2, k3⟩, sl⟩⟩ (4 - k) k)) (fun kk _ => 4 - (intOf kk).toNat)
      case atStart => exact ⟨0, A1, K1, by omega, rfl, ⟨HKX.out, Grow.refl _ _, Fr.refl _ _⟩, hO1.out, rfl⟩
      case round =>
          obtain ⟨k, A2, K2, hk, rfl, hS2, hO2, hE2⟩ := hrel
          have hk0 : (0 : Int) ≤ (k : Int) := by omega
          by_cases hk4 : k < 4
          rotate_left
          · have hkI : ¬ (k : Int) < 4 := by omega
            have hke : k = 4 := by omega
            subst hke
            have HX : Hid (K.flows at1 most = K2.flows (t + 1) (most - (i + 1))) := by
              show _ = _
              rw [HST.out, hE2.out]
              rfl
            go_wp2
            go_roundw
            case rel => exact ⟨i + 1, t + 1, A2, K2, by omega, by show _ = _; have := HT.out; omega, by go_num, by go_num, ⟨hS2.out.1, HGX.out.1.trans HGX.out.2.size hS2.out.2.1, HGX.out.2.grow HGX.out.1 hS2.out.2.2⟩, hO2.out.mono (by omega), HX.out⟩
            case measure => simp [intOf]; omega
          have hkI : (k : Int) < 4 := by omega
          have hc := HLM.out wr hS2.out.2.2
          have c0 := hc.1
          have c1 := hc.2
          clear hc
          by_cases hhit : l0 = (k : Int) ∨ l0 < 0
          rotate_left
          · have HX : Hid (K1.goes ⟨l0, ⟨xk, xf, xv, ⟨bv, ⟨jv, jb, j0, j1, j2, j3⟩, bc⟩, nu, ⟨cv, cb, k0, k1, k2, k3⟩, sl⟩⟩ 4 0 = K2.goes ⟨l0, ⟨xk, xf, xv, ⟨bv, ⟨jv, jb, j0, j1, j2, j3⟩, bc⟩, nu, ⟨cv, cb, k0, k1, k2, k3⟩, sl⟩⟩ (4 - (k + 1)) (k + 1)) := by
              show _ = _
              rw [hE2.out, show 4 - k = (4 - (k + 1)) + 1 by omega, goes_miss hhit]
            have h1 : (l0 == (k : Int)) = false := by simp; omega
            have h2 : ¬ l0 < 0 := by omega
            go_wp2
            go_roundw
            case rel => exact ⟨k + 1, A2, K2, by omega, by go_num, hS2.out, hO2.out.mono (by omega), HX.out⟩
            case measure => simp [intOf]; omega
          have HH : Hid (K1.goes ⟨l0, ⟨xk, xf, xv, ⟨bv, ⟨jv, jb, j0, j1, j2, j3⟩, bc⟩, nu, ⟨cv, cb, k0, k1, k2, k3⟩, sl⟩⟩ 4 0 = if (K2.comes k ⟨xk, xf, xv, ⟨bv, ⟨jv, jb, j0, j1, j2, j3⟩, bc⟩, nu, ⟨cv, cb, k0, k1, k2, k3⟩, sl⟩).2 then (K2.comes k ⟨xk, xf, xv, ⟨bv, ⟨jv, jb, j0, j1, j2, j3⟩, bc⟩, nu, ⟨cv, cb, k0, k1, k2, k3⟩, sl⟩).1.goes ⟨l0, ⟨xk, xf, xv, ⟨bv, ⟨jv, jb, j0, j1, j2, j3⟩, bc⟩, nu, ⟨cv, cb, k0, k1, k2, k3⟩, sl⟩⟩ (4 - (k + 1)) (k + 1) else K2.comes k ⟨xk, xf, xv, ⟨bv, ⟨jv, jb, j0, j1, j2, j3⟩, bc⟩, nu, ⟨cv, cb, k0, k1, k2, k3⟩, sl⟩) := by
            show _ = _
            rw [hE2.out, show 4 - k = (4 - (k + 1)) + 1 by omega, goes_hit hhit]
          have HC : Hid (Calls Tryd.prog 39 #[.pointer (some ⟨p, 0, none⟩), .int .i64 k, .agg #[.int .i64 xk, .int .i64 xf, .int .i64 xv, .int .i64 bv, .int .i64 jv, .int .u64 jb, .int .u64 j0, .int .u64 j1, .int .u64 j2, .int .u64 j3, .string bc, .int .u64 nu, .int .i64 cv, .int .u64 cb, .int .u64 k0, .int .u64 k1, .int .u64 k2, .int .u64 k3, .int .u64 sl]] wr fun e w' => e = .returned (.bool (K2.comes k ⟨xk, xf, xv, ⟨bv, ⟨jv, jb, j0, j1, j2, j3⟩, bc⟩, nu, ⟨cv, cb, k0, k1, k2, k3⟩, sl⟩).2) ∧ KGoes wr w' p A2 ps (K2.comes k ⟨xk, xf, xv, ⟨bv, ⟨jv, jb, j0, j1, j2, j3⟩, bc⟩, nu, ⟨cv, cb, k0, k1, k2, k3⟩, sl⟩).1) := kcomes wr p A2 ps K2 hS2.out.1 _ hO2.out (by omega) k hk4 ⟨xk, xf, xv, ⟨bv, ⟨jv, jb, j0, j1, j2, j3⟩, bc⟩, nu, ⟨cv, cb, k0, k1, k2, k3⟩, sl⟩ HLO.out.1
          have HO3 : Hid (KOk (K2.comes k ⟨xk, xf, xv, ⟨bv, ⟨jv, jb, j0, j1, j2, j3⟩, bc⟩, nu, ⟨cv, cb, k0, k1, k2, k3⟩, sl⟩).1 (n + 8 * i + 2 * k + 2)) := comes_kok hO2.out hk4 HLO.out.1
          clear hE2
          generalize K2.comes k ⟨xk, xf, xv, ⟨bv, ⟨jv, jb, j0, j1, j2, j3⟩, bc⟩, nu, ⟨cv, cb, k0, k1, k2, k3⟩, sl⟩ = R at HH HC HO3
          obtain ⟨K3, b3⟩ := R
          dsimp only at HH HC HO3
          have HIN : Hid (∀ w', KGoes wr w' p A2 ps K3 → ∃ A3, KSit w' p A3 ps K3 ∧ Grow (UA A1) X (UA A3) ∧ Fr (UA A1) X w') := fun w' hg => by
            obtain ⟨A3, h1, h2⟩ := hg.ex
            exact ⟨A3, h1, hS2.out.2.1.trans hS2.out.2.2.size h2, hS2.out.2.2.grow hS2.out.2.1 hg.fr⟩
          have hdis : (l0 == (k : Int)) = true ∨ ((l0 == (k : Int)) = false ∧ l0 < 0) := by
            by_cases he : l0 = (k : Int)
            · exact .inl (by simp [he])
            · exact .inr ⟨by simp [he], by omega⟩
          clear hhit
          cases b3 with
          | false =>
            have HX : Hid (K.flows at1 most = (K3, t + 1, false)) := by
              show _ = _
              rw [HST.out, HH.out]
              rfl
            rcases hdis with h1 | ⟨h1, h2⟩
            all_goals (
              go_wp2_with (go_at_call 39; refine HC.out.mono ?_; rintro e w6 ⟨rfl, hg6⟩; have HG6 : Hid (KGoes wr w6 p A2 ps K3) := hg6; clear hg6)
              go_ret2
              rw [HX.out]
              obtain ⟨A3, z1, z2, z3⟩ := HIN.out _ HG6.out
              exact ⟨by rfl, ⟨⟨A3, z1, HGX.out.1.trans HGX.out.2.size z2⟩, HGX.out.2.grow HGX.out.1 z3⟩, HO3.out.mono (by omega)⟩)
          | true =>
            have HX : Hid (K1.goes ⟨l0, ⟨xk, xf, xv, ⟨bv, ⟨jv, jb, j0, j1, j2, j3⟩, bc⟩, nu, ⟨cv, cb, k0, k1, k2, k3⟩, sl⟩⟩ 4 0 = K3.goes ⟨l0, ⟨xk, xf, xv, ⟨bv, ⟨jv, jb, j0, j1, j2, j3⟩, bc⟩, nu, ⟨cv, cb, k0, k1, k2, k3⟩, sl⟩⟩ (4 - (k + 1)) (k + 1)) := by
              show _ = _
              rw [HH.out]
              rfl
            rcases hdis with h1 | ⟨h1, h2⟩
            all_goals (
              go_wp2_with (go_at_call 39; refine HC.out.mono ?_; rintro e w6 ⟨rfl, hg6⟩; have HG6 : Hid (KGoes wr w6 p A2 ps K3) := hg6; clear hg6)
              go_roundw
              case rel =>
                obtain ⟨A3, z1, z2, z3⟩ := HIN.out _ HG6.out
                exact ⟨k + 1, A3, K3, by omega, by go_num, ⟨z1, z2, z3⟩, HO3.out.mono (by omega), HX.out⟩
              case measure => simp [intOf]; omega)
end Go.Proofs.YtkehpnobidendaaDoor
