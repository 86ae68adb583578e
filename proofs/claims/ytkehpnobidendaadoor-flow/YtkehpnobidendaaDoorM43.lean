/- parleykeep's comes. -/
import Derived.Test.YtkehpnobidendaaDoorM36
import Derived.Test.YtkehpnobidendaaDoorM38
import Derived.Test.YtkehpnobidendaaDoorM42
import Derived.BigRegion
import Derived.Deep.RegionHeld3
namespace Go.Proofs.YtkehpnobidendaaDoor
open Go.RowKit
attribute [local go_sem ↓] pload_msg

theorem pgaveG_heap {w w1 w' : World} {p : Nat} {S : Nat → Prop} {m : Mem} {a : Option Addr} {cap : Nat} {out : List Ltr} (h : PGaveG w w' p S m a cap out) (hf : Below w1.heap.size w1 w) (he : w.heap.size = w1.heap.size) : PGaveG w1 w' p S m a cap out := by
  obtain ⟨S', h1, h2, h3⟩ := h.ex
  refine ⟨⟨S', h1, ?_, ?_⟩, (Fr.of_below hf).trans h.fr (fun _ h => .inl h)⟩
  · intro k hk; rcases h2 k hk with h4 | h4
    · exact .inl h4
    · exact .inr (by omega)
  · rw [← he]; exact h3
/-- What was sent goes out, what the member has is looked at: the cluster behind both. -/
theorem ksit_after {w w1 w2 w3 : World} {p pm : Nat} {A : Nat → Nat → Prop} {ps : List (Option Nat)} {K : Clu} {n : Nat} (h : KSit w p A ps K) (ok : KOk K n) {k : Nat} (hk : k < 4) (hp : ps.getD k none = some pm) {Sm S1 S2 : Nat → Prop} {m : Mem} {out : List Ltr}
    (hm : PMem w1 pm Sm m) (hg : Grow (A (k + 1)) w Sm) (hf : Fr (A (k + 1)) w w1)
    (h1 : KMem w2 p S1 ps ((K.setMem k m).sends k out).1) (g1 : Grow (A 0) w1 S1) (f1 : Fr (A 0) w1 w2) (hc : ((K.setMem k m).sends k out).1.mem = (K.setMem k m).mem)
    (h2 : KMem w3 p S2 ps (K.after k m out).1) (g2 : Grow S1 w2 S2) (f2 : Fr S1 w2 w3) : KGoes w w3 p A ps (K.after k m out).1 := by
  have a1 := h.turn ok.ml hk hp hm hg hf
  have e0 : updA A (k + 1) Sm 0 = A 0 := updA_ne A Sm (by omega)
  have a2 := a1.clu h1 hc (by rw [e0]; exact g1) (by rw [e0]; exact f1)
  have e1 : updA (updA A (k + 1) Sm) 0 S1 0 = S1 := updA_at _ _ _
  have a3 := a2.clu h2 (setWas_keep _ k m.sta).m (by rw [e1]; exact g2) (by rw [e1]; exact f2)
  have u1 : Fr (UA A) w w1 := fr_u (by omega) hf
  have v1 : Grow (UA A) w (UA (updA A (k + 1) Sm)) := grow_u hg
  have u2 : Fr (UA (updA A (k + 1) Sm)) w1 w2 := fr_u (i := 0) (by omega) (by rw [e0]; exact f1)
  have v2 : Grow (UA (updA A (k + 1) Sm)) w1 (UA (updA (updA A (k + 1) Sm) 0 S1)) := grow_u (i := 0) (by rw [e0]; exact g1)
  have u3 : Fr (UA (updA (updA A (k + 1) Sm) 0 S1)) w2 w3 := fr_u (i := 0) (by omega) (by rw [e1]; exact f2)
  have v3 : Grow (UA (updA (updA A (k + 1) Sm) 0 S1)) w2 (UA (updA (updA (updA A (k + 1) Sm) 0 S1) 0 S2)) := grow_u (i := 0) (by rw [e1]; exact g2)
  exact ⟨⟨_, a3, (v1.trans u1.size v2).trans (Nat.le_trans u1.size u2.size) v3⟩, (u1.grow v1 u2).grow (v1.trans u1.size v2) u3⟩
theorem kgoes_below {w w1 w' : World} {p : Nat} {A : Nat → Nat → Prop} {ps : List (Option Nat)} {K : Clu} (hb : Below w.heap.size w w1) (h : KGoes w1 w' p A ps K) : KGoes w w' p A ps K := h.trans (Grow.refl _ _) (Fr.of_below hb)
/-- The two calls that follow each call of a member. -/
theorem ksends_at {w w1 : World} {p pm : Nat} {A : Nat → Nat → Prop} {ps : List (Option Nat)} {K : Clu} {n : Nat} (h : KSit w p A ps K) (ok : KOk K n) (hn : n ≤ 1600000000) {k : Nat} (hk : k < 4) (hp : ps.getD k none = some pm) {Sm : Nat → Prop} {m : Mem} {out : List Ltr}
    (hm : PMem w1 pm Sm m) (hg : Grow (A (k + 1)) w Sm) (hf : Fr (A (k + 1)) w w1) (ho : ∀ l ∈ out, l.Ok) (hl : out.length ≤ 2) (a : Option Addr) (cap : Nat) (Sl : Nat → Prop) (hr : Row w1 Sl 42 20 (.slice a out.length cap) out.length (out.flatMap Ltr.cells)) (hd : ∀ b, Sl b → w.heap.size ≤ b) :
    Calls Tryd.prog 38 #[.pointer (some ⟨p, 0, none⟩), .int .i64 k, .slice a out.length cap] w1 fun e w' => e = .returned (.bool ((K.setMem k m).sends k out).2) ∧ ∃ S', KMem w' p S' ps ((K.setMem k m).sends k out).1 ∧ Grow (A 0) w1 S' ∧ Fr (A 0) w1 w' := by
  have a1 := h.turn ok.ml hk hp hm hg hf
  have e0 : updA A (k + 1) Sm 0 = A 0 := updA_ne A Sm (by omega)
  have a2 := a1.k
  rw [e0] at a2
  exact ksends w1 p (A 0) ps (K.setMem k m) a2 ⟨ok.ok.bl, ok.ok.vt, ok.ok.l0, ok.ok.l1⟩ n ⟨ok.len.lt, ok.len.ct, ok.len.vt, ok.len.bl⟩ k hk out (by omega) Sl a cap hr (fun b hb ha => by have := h.lt 0 b (by omega) ha; have := hd b hb; omega) ho
theorem ksteady_at {w w1 w2 : World} {p pm : Nat} {A : Nat → Nat → Prop} {ps : List (Option Nat)} {K : Clu} {n : Nat} (h : KSit w p A ps K) (ok : KOk K n) (hn : n ≤ 1600000000) {k : Nat} (hk : k < 4) (hp : ps.getD k none = some pm) {Sm S1 : Nat → Prop} {m : Mem} {out : List Ltr}
    (hm : PMem w1 pm Sm m) (hg : Grow (A (k + 1)) w Sm) (hf : Fr (A (k + 1)) w w1) (ho : ∀ l ∈ out, l.Ok) (hmo : MOk m (n + 2))
    (h1 : KMem w2 p S1 ps ((K.setMem k m).sends k out).1) (f1 : Fr (A 0) w1 w2) :
    Calls Tryd.prog 26 #[.pointer (some ⟨p, 0, none⟩), .int .i64 k] w2 fun e w' => e = .returned (.bool ((((K.setMem k m).sends k out).1.was k).grows m.sta)) ∧ ∃ S', KMem w' p S' ps (K.after k m out).1 ∧ Grow S1 w2 S' ∧ Fr S1 w2 w' := by
  have a1 := h.turn ok.ml hk hp hm hg hf
  have e0 : updA A (k + 1) Sm 0 = A 0 := updA_ne A Sm (by omega)
  have e1 : updA A (k + 1) Sm (k + 1) = Sm := updA_at _ _ _
  have hl := log_len hmo.iv
  have hb := hmo.b
  have hs := sends_sent (k : Int) ⟨by omega, by omega⟩ out (K.setMem k m) n ⟨ok.ok.bl, ok.ok.vt, ok.ok.l0, ok.ok.l1⟩ ⟨ok.len.lt, ok.len.ct, ok.len.vt, ok.len.bl⟩ ho
  have hpm2 : PMem w2 pm Sm m := hm.fr f1 (fun b h2 h3 => by
    have := a1.dis (k + 1) 0 b (by omega) (by omega) (by rw [e1]; exact h2) (by rw [e0]; exact h3)
    omega) (h.z 0 (by omega))
  refine ksteady w2 p S1 ps _ h1 k hk pm Sm m h.l ?_ hpm2 (by omega) hmo.lgk ?_
  · rw [List.getD_eq_getElem?_getD] at hp
    have hk4 : k < ps.length := by have := h.l; omega
    rw [List.getElem?_eq_getElem hk4] at hp ⊢
    exact congrArg some hp
  · rw [hs.ck.was]
    have := ok.wl k
    exact Nat.le_trans this (by omega)
set_option maxRecDepth 100000 in
set_option maxHeartbeats 4000000 in
theorem kcomes (w : World) (p : Nat) (A : Nat → Nat → Prop) (ps : List (Option Nat)) (K : Clu) (h : KSit w p A ps K) (n : Nat) (ok : KOk K n) (hn : n ≤ 1600000000) (k : Nat) (hk : k < 4) (x : Msg) (hx : x.Ok) :
    Calls Tryd.prog 39 #[.pointer (some ⟨p, 0, none⟩), .int .i64 k, .agg x.cells.toArray] w fun e w' => e = .returned (.bool (K.comes k x).2) ∧ KGoes w w' p A ps (K.comes k x).1 := by
  obtain ⟨g, off, cm, hgA, hc0, hci⟩ := h.cells
  have hg : g < w.heap.size := h.lt 0 g (by omega) hgA
  have hpl : p < w.heap.size := h.k.lt
  have hck := hci k hk
  have hk0 : (0 : Int) ≤ (k : Int) := by omega
  have hk1 : (k : Int) < 4 := by omega
  cases hm : K.memAt k with
  | none =>
    have hq := h.nil hk hm
    rw [hq] at hck
    have HR : Hid (K.comes k x = (K, true)) := by show _ = _; unfold Clu.comes; rw [hm]
    have HK : Hid (KSit w p A ps K) := h
    dsimp only [mptr, Option.map] at hck
    have d0 := (Below.cell (p := ⟨p, 0, none⟩) (below_alloc w (.cells x.cells.toArray 40)) hpl).trans hc0
    have d1 := (Below.cell (p := ⟨g, off + k, none⟩) (below_alloc w (.cells x.cells.toArray 40)) hg).trans hck
    clear h hm hq ok hci hgA hc0 hck
    obtain ⟨xk, xf, xv, ⟨bv, ⟨jv, jb, j0, j1, j2, j3⟩, bc⟩, nu, ⟨cv, cb, k0, k1, k2, k3⟩, sl⟩ := x
    dsimp only [Msg.cells] at *
    go_enter Tryd.func39, Tryd.ntmps39
    go_wp2
    go_ret
    rw [HR.out]
    exact ⟨rfl, ⟨⟨A, HK.out.below (below_alloc _ _), Grow.refl _ _⟩, Fr.of_below (below_alloc _ _)⟩⟩
  | some m =>
    obtain ⟨pm, hq, hpm⟩ := h.some1 hk hm
    rw [hq] at hck
    dsimp only [mptr, Option.map] at hck
    have hmo := ok.at' hm
    have HR : Hid (K.comes k x = K.after k (m.handle x).1 (m.handle x).2.1) := by show _ = _; unfold Clu.comes; rw [hm]
    obtain ⟨W1, hW1⟩ : ∃ y, y = w.alloc (.cells x.cells.toArray 40) := ⟨_, rfl⟩
    have HB1 : Hid (Below w.heap.size w W1) := by rw [hW1]; exact below_alloc _ _
    have HX1 : Hid (W1.heap[w.heap.size]? = some (.cells x.cells.toArray 40 (0, 0))) := by rw [hW1]; exact heap_alloc_new w _
    have hld : ∀ W, W.heap[w.heap.size]? = some (.cells x.cells.toArray 40 (0, 0)) → (rowVar 40 ⟨w.heap.size, 0, none⟩).run Tryd.prog W = .ok (.agg x.cells.toArray) W := fun W hW => rowVar_whole _ w.heap.size 40 40 x.cells.toArray (0, 0) _ hW Tryd.underlying40 rfl (by kernel_rfl)
    have HK1 : Hid (KSit W1 p A ps K) := h.below HB1.out
    have HOK : Hid (KOk K n) := ok
    have HP : Hid (ps.getD k none = some pm) := hq
    have HM : Hid (MOk (m.handle x).1 (n + 2) ∧ (∀ l ∈ (m.handle x).2.1, l.Ok) ∧ (m.handle x).2.1.length ≤ 2) := ⟨mok_handle hmo x hx, handle_ok hmo.iv x hx, handle_out m x⟩
    have HH : Hid (Calls Tryd.prog 25 #[.pointer (some ⟨pm, 0, none⟩), .agg x.cells.toArray] W1.drew fun e w' => ∃ a cap, e = .returned (.tuple #[.slice a (m.handle x).2.1.length cap, .int .i64 (m.handle x).2.2]) ∧ PGaveG W1 w' pm (A (k + 1)) (m.handle x).1 a cap (m.handle x).2.1) := by
      refine (phandle W1.drew pm (A (k + 1)) m ((hpm.below HB1.out).heap rfl) hmo.iv hmo.i2 x hx (hmo.small (by omega))).mono ?_
      rintro e w' ⟨a, cap, he, hga⟩
      exact ⟨a, cap, he, pgaveG_heap hga (Below.refl _ _).drew rfl⟩
    have d0 := (HB1.out.cell (p := ⟨p, 0, none⟩) hpl).trans hc0
    have d1 := (HB1.out.cell (p := ⟨g, off + k, none⟩) hg).trans hck
    have d2 := hld W1.drew HX1.out
    have HB1S : Hid (Below w.heap.size w W1) := HB1.out
    have HS5 : Hid (∀ w5, Fr (A (k + 1)) W1 w5 → w5.cell? ⟨p, 0, none⟩ = some (.slice (some ⟨g, off, none⟩) 4 cm) ∧ w5.cell? ⟨g, off + k, none⟩ = some (.pointer (some ⟨pm, 0, none⟩)) ∧ (rowVar 40 ⟨w.heap.size, 0, none⟩).run Tryd.prog w5 = .ok (.agg x.cells.toArray) w5) := fun w5 hf => by
      have n0 : ∀ b, A 0 b → ¬ A (k + 1) b := fun b h1 h2 => absurd (h.dis 0 (k + 1) b (by omega) (by omega) h1 h2) (by omega)
      have hs := HB1.out.size
      refine ⟨(World.cell?_of_block (hf.block p (by omega) (n0 p h.k.sp))).trans d0, (World.cell?_of_block (hf.block g (by omega) (n0 g hgA))).trans d1, hld w5 ((hf.block _ (lt_at HX1.out) (fun h1 => by have := h.lt (k + 1) _ (by omega) h1; omega)).trans HX1.out)⟩
    clear h hpm hmo hq ok hci hgA hc0 hck hm HX1 hx hld
    obtain ⟨M, hMM⟩ : ∃ y, y = m.handle x := ⟨_, rfl⟩
    rw [← hMM] at HR HM HH
    clear hMM
    obtain ⟨m', out, er⟩ := M
    dsimp only at HR HM HH
    obtain ⟨xk, xf, xv, ⟨bv, ⟨jv, jb, j0, j1, j2, j3⟩, bc⟩, nu, ⟨cv, cb, k0, k1, k2, k3⟩, sl⟩ := x
    dsimp only [Msg.cells] at *
    go_enter Tryd.func39, Tryd.ntmps39
    go_upto_region 1 with fail
    rw [← hW1]
    clear hW1
    go_upto_region 3 with fail
    go_cut [7] (fun s w' => ∃ a cap, s = .slice a out.length cap ∧ Hid (PGaveG W1 w' pm (A (k + 1)) m' a cap out))
    case first =>
      go_region_held3 (fun W => W.cell? ⟨p, 0, none⟩ = some (.slice (some ⟨g, off, none⟩) 4 cm) ∧ W.cell? ⟨g, off + k, none⟩ = some (.pointer (some ⟨pm, 0, none⟩)) ∧ (rowVar 40 ⟨w.heap.size, 0, none⟩).run Tryd.prog W = .ok (.agg #[.int .i64 xk, .int .i64 xf, .int .i64 xv, .int .i64 bv, .int .i64 jv, .int .u64 jb, .int .u64 j0, .int .u64 j1, .int .u64 j2, .int .u64 j3, .string bc, .int .u64 nu, .int .i64 cv, .int .u64 cb, .int .u64 k0, .int .u64 k1, .int .u64 k2, .int .u64 k3, .int .u64 sl]) W)
        (first | (exact HS5.out _ (Fr.drew _ _)) | (exact HS5.out _ (Fr.refl _ _)) | (exact HS5.out _ HG5.out.fr))
        ((go_at_call 25; refine HH.out.mono ?_; rintro e w5 ⟨a, cap, rfl, hg5⟩; have HG5 : Hid (PGaveG W1 w5 pm (A (k + 1)) m' a cap out) := hg5; clear hg5))
      all_goals (
        go_wp2
        go_meet
        case rel => exact ⟨a, cap, rfl, HG5.out⟩)
    case rest =>
      obtain ⟨a, cap, rfl, hG⟩ := hcut
      obtain ⟨Sm, hpm, hgm, hrow⟩ := hG.out.ex
      have hfm := hG.out.fr
      have HSE : Hid (Calls Tryd.prog 38 #[.pointer (some ⟨p, 0, none⟩), .int .i64 k, .slice a out.length cap] wc fun e w' => e = .returned (.bool ((K.setMem k m').sends k out).2) ∧ ∃ S', KMem w' p S' ps ((K.setMem k m').sends k out).1 ∧ Grow (A 0) wc S' ∧ Fr (A 0) wc w') := ksends_at HK1.out HOK.out hn hk HP.out hpm hgm hfm HM.out.2.1 HM.out.2.2 a cap _ hrow (fun b hb => hb.1)
      have HST : Hid (∀ w2 S1, KMem w2 p S1 ps ((K.setMem k m').sends k out).1 → Fr (A 0) wc w2 → Calls Tryd.prog 26 #[.pointer (some ⟨p, 0, none⟩), .int .i64 k] w2 fun e w' => e = .returned (.bool ((((K.setMem k m').sends k out).1.was k).grows m'.sta)) ∧ ∃ S', KMem w' p S' ps (K.after k m' out).1 ∧ Grow S1 w2 S' ∧ Fr S1 w2 w') := fun w2 S1 h1 f1 => ksteady_at HK1.out HOK.out hn hk HP.out hpm hgm hfm HM.out.2.1 HM.out.1 h1 f1
      have HMC : Hid (((K.setMem k m').sends k out).1.mem = (K.setMem k m').mem) := (sends_sent (k : Int) ⟨by omega, by omega⟩ out (K.setMem k m') n ⟨HOK.out.ok.bl, HOK.out.ok.vt, HOK.out.ok.l0, HOK.out.ok.l1⟩ ⟨HOK.out.len.lt, HOK.out.len.ct, HOK.out.len.vt, HOK.out.len.bl⟩ HM.out.2.1).ck.m
      have HPM : Hid (PMem wc pm Sm m' ∧ Grow (A (k + 1)) W1 Sm ∧ Fr (A (k + 1)) W1 wc) := ⟨hpm, hgm, hfm⟩
      have HE : Hid ((K.after k m' out).2 = (((K.setMem k m').sends k out).2 && (((K.setMem k m').sends k out).1.was k).grows m'.sta)) := rfl
      generalize ((K.setMem k m').sends k out).2 = b1 at HSE HE
      generalize (((K.setMem k m').sends k out).1.was k).grows m'.sta = b2 at HST HE
      clear hG hpm hgm hfm hrow d0 d1 d2 HS5
      go_wp2_with (first
        | (go_at_call 38; refine HSE.out.mono ?_; rintro e w6 ⟨rfl, S6, hm6, hg6, hf6⟩; have HM6 : Hid (KMem w6 p S6 ps ((K.setMem k m').sends k out).1 ∧ Grow (A 0) wc S6 ∧ Fr (A 0) wc w6) := ⟨hm6, hg6, hf6⟩; clear hm6 hg6 hf6)
        | (go_at_call 26; refine (HST.out w6 S6 HM6.out.1 HM6.out.2.2).mono ?_; rintro e w7 ⟨rfl, S7, hm7, hg7, hf7⟩; have HM7 : Hid (KMem w7 p S7 ps (K.after k m' out).1 ∧ Grow S6 w6 S7 ∧ Fr S6 w6 w7) := ⟨hm7, hg7, hf7⟩; clear hm7 hg7 hf7))
      all_goals (
        go_ret
        rw [HR.out]
        refine ⟨by rw [HE.out]; simp_all, kgoes_below HB1.out (ksit_after HK1.out HOK.out hk HP.out HPM.out.1 HPM.out.2.1 HPM.out.2.2 HM6.out.1 HM6.out.2.1 HM6.out.2.2 HMC.out HM7.out.1 HM7.out.2.1 HM7.out.2.2)⟩)
end Go.Proofs.YtkehpnobidendaaDoor
