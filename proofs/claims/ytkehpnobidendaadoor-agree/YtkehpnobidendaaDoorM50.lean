/- parleykeep's lies: each of its kinds. parleykeep's happens, of every other kind. parleykeep's happens, of a letter that comes. parleykeep's Agree: true, whatever the script, the liar, the patience. -/
import Derived.Test.YtkehpnobidendaaDoorM49
namespace Go.Proofs.YtkehpnobidendaaDoor
open Go.RowKit
attribute [local go_sem ↓] pload_msg put_msgK
theorem meets_kok {K : Clu} {n : Nat} (h : KOk K n) {c : Int} (b : Blk) (hb : b.Ok) : KOk (({ K with count := c } : Clu).meets b) (n + 1) := by
  have hm := meets_keep ({ K with count := c } : Clu) b
  have hs := meets_same ({ K with count := c } : Clu) b
  have hk := kmeets_ok (K := { K with count := c }) ⟨h.ok.bl, h.ok.vt, h.ok.l0, h.ok.l1⟩ b hb
  refine ⟨hk, ⟨?_, ?_, ?_, ?_⟩, ?_, ?_, ?_, fun k => ?_⟩
  · rw [hs.2.1]; exact Nat.le_succ_of_le h.len.lt
  · rw [hs.2.2.1]; exact Nat.le_succ_of_le h.len.ct
  · rw [hs.1]; exact Nat.le_succ_of_le h.len.vt
  · have h1 := hm.2.2.2.2.2
    have h2 := h.len.bl
    have h3 : ({ K with count := c } : Clu).blocks.length = K.blocks.length := rfl
    omega
  · rw [hs.2.1]; exact h.lt
  · rw [hs.2.2.2.1]; exact h.ml
  · rw [hs.2.2.2.1]; exact fun m hm => (h.ms m hm).mono (by omega)
  · rw [hs.2.2.2.2.1]; exact Nat.le_succ_of_le (h.wl k)
set_option maxRecDepth 1000000 in
set_option maxHeartbeats 8000000 in
theorem klies4 (w : World) (p : Nat) (A : Nat → Nat → Prop) (ps : List (Option Nat)) (K : Clu) (h : KSit w p A ps K) (n : Nat) (ok : KOk K n) (hn : n ≤ 1400000000) (a b : Int) (a0 : -9223372036854775808 ≤ a) (a1 : a ≤ 9223372036854775807) (b0 : -9223372036854775808 ≤ b) (b1 : b ≤ 9223372036854775807) (hl0 : 0 ≤ K.liar) (hl3 : K.liar ≤ 3) (hcr : ∀ c ∈ K.certs, c.Ok ∧ 0 ≤ c.view ∧ c.view ≤ 1000) (hc1 : 1 ≤ K.certs.length) (nn : Nat) (hcn : K.count = (nn : Int)) (hnn : nn ≤ 20000000000001) :
    Calls Tryd.prog 40 #[.pointer (some ⟨p, 0, none⟩), .agg #[.int .i64 4, .int .i64 a, .int .i64 b]] w fun e w' => ∃ go, e = .returned (.bool (K.lies 4 a b go).2) ∧ KGoes w w' p A ps (K.lies 4 a b go).1 := by
  have HS0 : Hid (KSit w p A ps K) := h
  have HO : Hid (KOk K n) := ok
  obtain ⟨vc3, cl, hc3, hrow⟩ : ∃ al cl, w.cell? ⟨p, 3, none⟩ = some (.slice al K.certs.length cl) ∧ Row w (A 0) 26 6 (.slice al K.certs.length cl) K.certs.length (K.certs.flatMap Crt.cells) := by
    obtain ⟨vm, vl, vc, vv, l0, l1, l2, l3, vb, g1⟩ := h.k.ex
    have hr : Row w (A 0) 26 6 vc K.certs.length (K.certs.flatMap Crt.cells) := g1.row 2 _ _ _ rfl rfl rfl
    obtain ⟨am, cm, rfl⟩ := hr.isSlice
    exact ⟨am, cm, cell_at g1.box 3, hr⟩
  obtain ⟨g, off, rfl, hSg, hg, hcap⟩ := hrow.place (by omega)
  have hll : K.certs.length ≤ 1600000000 := by have := ok.len.ct; omega
  have hpl := pickN_lt b K.certs.length (by omega)
  have HPK : Hid (∀ W, Calls Tryd.prog 13 #[.int .i64 b, .int .i64 K.certs.length] W fun e w' => e = .returned (.int .i64 (pickN b K.certs.length : Nat)) ∧ W = w') := fun W => (kpick b K.certs.length b0 b1 (by omega) (by omega) W).mono (fun _ _ h => ⟨h.1, h.2.symm⟩)
  obtain ⟨pb, hpb⟩ : ∃ pb, pb = pickN b K.certs.length := ⟨_, rfl⟩
  rw [← hpb] at HPK hpl
  obtain ⟨i, hi⟩ : ∃ i, i = K.certs.length - 1 - pb := ⟨_, rfl⟩
  have hil : i < K.certs.length := by omega
  have hw1 : IntKind.i64.wrap ((K.certs.length : Int) - 1) = (K.certs.length : Int) - 1 := by rw [IntKind.wrap_i64]; omega
  have hw2 : IntKind.i64.wrap ((K.certs.length : Int) - 1 - (pb : Int)) = (i : Int) := by rw [IntKind.wrap_i64]; omega
  have hi0 : (0 : Int) ≤ (i : Int) := by omega
  have hi1 : (i : Int) < (K.certs.length : Int) := by omega
  have hget : K.certs.getD (K.certs.length - 1 - pickN b K.certs.length) Crt.zero = K.certs[i] := by
    rw [← hpb, ← hi, List.getD_eq_getElem?_getD, List.getElem?_eq_getElem hil]; rfl
  have HCR : Hid (K.certs[i].Ok ∧ 0 ≤ K.certs[i].view ∧ K.certs[i].view ≤ 1000) := hcr _ (List.getElem_mem hil)
  have hel := hrow.elemAt (show ∀ c : Crt, c.cells.length = 6 from fun _ => rfl) i hil
  have HGET : Hid (K.certs.getD (K.certs.length - 1 - pickN b K.certs.length) Crt.zero = K.certs[i]) := hget
  generalize K.certs[i] = c at HCR hel HGET
  obtain ⟨cv, cb, k0, k1, k2, k3⟩ := c
  have HLI : Hid (0 ≤ K.liar ∧ K.liar ≤ 3) := ⟨hl0, hl3⟩
  obtain ⟨li, hli⟩ : ∃ li, li = K.liar := ⟨_, rfl⟩
  have HLE : Hid (li = K.liar) := hli
  have hlc : w.cell? ⟨p, 1, none⟩ = some (.int .i64 li) := by
    obtain ⟨vm, vl, vc, vv, l0, l1, l2, l3, vb, g1⟩ := h.k.ex
    rw [hli]
    exact cell_at g1.box 1
  have hpW : p < w.heap.size := h.k.lt
  -- the step's box, the message's box
  obtain ⟨W1, hW1⟩ : ∃ W1, W1 = w.alloc (.cells #[.int .i64 4, .int .i64 a, .int .i64 b] 66) := ⟨_, rfl⟩
  have HB1 : Hid (Below w.heap.size w W1 ∧ w.heap.size < W1.heap.size ∧ W1.heap[w.heap.size]? = some (.cells #[.int .i64 4, .int .i64 a, .int .i64 b] 66 (0, 0))) := by
    rw [hW1]
    have := heap_alloc_new w (.cells #[.int .i64 4, .int .i64 a, .int .i64 b] 66)
    exact ⟨below_alloc _ _, lt_at this, this⟩
  have p1c : W1.cell? ⟨p, 1, none⟩ = some (.int .i64 li) := (HB1.out.1.cell (p := ⟨p, 1, none⟩) hpW).trans hlc
  have s0c : W1.cell? ⟨w.heap.size, 0, none⟩ = some (.int .i64 4) := cell_at HB1.out.2.2 0
  have hpu : (rowPut 40 ⟨W1.heap.size, 0, none⟩ (.agg #[.int .i64 1, .int .i64 li, .int .i64 0, .int .i64 0, .int .i64 0, .int .u64 0, .int .u64 0, .int .u64 0, .int .u64 0, .int .u64 0, .string ⟨#[]⟩, .int .u64 0, .int .i64 0, .int .u64 0, .int .u64 0, .int .u64 0, .int .u64 0, .int .u64 0, .int .u64 0])).run Tryd.prog (W1.alloc (.cells #[.int .i64 0, .int .i64 0, .int .i64 0, .int .i64 0, .int .i64 0, .int .u64 0, .int .u64 0, .int .u64 0, .int .u64 0, .int .u64 0, .string ⟨#[]⟩, .int .u64 0, .int .i64 0, .int .u64 0, .int .u64 0, .int .u64 0, .int .u64 0, .int .u64 0, .int .u64 0] 40)) = .ok () (W1.alloc (.cells #[.int .i64 1, .int .i64 li, .int .i64 0, .int .i64 0, .int .i64 0, .int .u64 0, .int .u64 0, .int .u64 0, .int .u64 0, .int .u64 0, .string ⟨#[]⟩, .int .u64 0, .int .i64 0, .int .u64 0, .int .u64 0, .int .u64 0, .int .u64 0, .int .u64 0, .int .u64 0] 40)) := (rowPut_mid _ W1.heap.size 0 40 #[.int .i64 1, .int .i64 li, .int .i64 0, .int .i64 0, .int .i64 0, .int .u64 0, .int .u64 0, .int .u64 0, .int .u64 0, .int .u64 0, .string ⟨#[]⟩, .int .u64 0, .int .i64 0, .int .u64 0, .int .u64 0, .int .u64 0, .int .u64 0, .int .u64 0, .int .u64 0] (start19 W1 _ rfl _) (by kernel_rfl) (by simp [Value.oneCell'])).trans (by rw [setCells_new, fill19])
  obtain ⟨W2, hW2⟩ : ∃ W2, W2 = W1.alloc (.cells #[.int .i64 1, .int .i64 li, .int .i64 0, .int .i64 0, .int .i64 0, .int .u64 0, .int .u64 0, .int .u64 0, .int .u64 0, .int .u64 0, .string ⟨#[]⟩, .int .u64 0, .int .i64 0, .int .u64 0, .int .u64 0, .int .u64 0, .int .u64 0, .int .u64 0, .int .u64 0] 40) := ⟨_, rfl⟩
  have HB2 : Hid (Below W1.heap.size W1 W2 ∧ W1.heap.size < W2.heap.size ∧ W2.heap[W1.heap.size]? = some (.cells #[.int .i64 1, .int .i64 li, .int .i64 0, .int .i64 0, .int .i64 0, .int .u64 0, .int .u64 0, .int .u64 0, .int .u64 0, .int .u64 0, .string ⟨#[]⟩, .int .u64 0, .int .i64 0, .int .u64 0, .int .u64 0, .int .u64 0, .int .u64 0, .int .u64 0, .int .u64 0] 40 (0, 0))) := by
    rw [hW2]
    have := heap_alloc_new W1 (.cells #[.int .i64 1, .int .i64 li, .int .i64 0, .int .i64 0, .int .i64 0, .int .u64 0, .int .u64 0, .int .u64 0, .int .u64 0, .int .u64 0, .string ⟨#[]⟩, .int .u64 0, .int .i64 0, .int .u64 0, .int .u64 0, .int .u64 0, .int .u64 0, .int .u64 0, .int .u64 0] 40)
    exact ⟨below_alloc _ _, lt_at this, this⟩
  have HBB : Hid (Below w.heap.size w W2) := bnext HB1.out.1 HB2.out.1
  have HS3 : Hid (∀ W, Below W2.heap.size W2 W → Below W2.heap.size W2 W ∧ W.cell? ⟨p, 3, none⟩ = some (.slice (some ⟨g, off, none⟩) K.certs.length cl) ∧ W.cell? ⟨w.heap.size, 2, none⟩ = some (.int .i64 b) ∧ W.cell? ⟨g, off + i * 6, none⟩ = some (.int .i64 cv) ∧ W.cell? ⟨g, off + i * 6 + 1, none⟩ = some (.int .u64 cb) ∧ W.cell? ⟨g, off + i * 6 + 2, none⟩ = some (.int .u64 k0) ∧ W.cell? ⟨g, off + i * 6 + 3, none⟩ = some (.int .u64 k1) ∧ W.cell? ⟨g, off + i * 6 + 4, none⟩ = some (.int .u64 k2) ∧ W.cell? ⟨g, off + i * 6 + 5, none⟩ = some (.int .u64 k3)) := fun W hW => by
    have hb := bnext HBB.out hW
    have hc : ∀ j v, (Crt.cells ⟨cv, cb, k0, k1, k2, k3⟩)[j]? = some v → W.cell? ⟨g, off + i * 6 + j, none⟩ = some v := fun j v hv => (hb.cell (p := ⟨g, off + i * 6 + j, none⟩) hg).trans (hel j v hv)
    have hbt : W.heap[w.heap.size]? = some (.cells #[.int .i64 4, .int .i64 a, .int .i64 b] 66 (0, 0)) := (hW.block _ (Nat.lt_of_lt_of_le HB1.out.2.1 HB2.out.1.size)).trans ((HB2.out.1.block _ HB1.out.2.1).trans HB1.out.2.2)
    exact ⟨hW, (hb.cell (p := ⟨p, 3, none⟩) hpW).trans hc3, cell_at hbt 2, hc 0 _ rfl, hc 1 _ rfl, hc 2 _ rfl, hc 3 _ rfl, hc 4 _ rfl, hc 5 _ rfl⟩
  have HCN : Hid (K.count = (nn : Int)) := hcn
  clear h ok hcr hget hli hlc hrow hel hcap hSg hcn hpb hi
  go_enter Tryd.func40, Tryd.ntmps40
  go_upto_region 1 with fail
  rw [← hW1]
  clear hW1
  go_upto_region 3 with fail
  rw [← hW2]
  clear p1c s0c hpu hW2
  obtain ⟨Bt, hBt⟩ : ∃ x, x = w.heap.size := ⟨_, rfl⟩
  have HBT : Hid (Bt = w.heap.size) := hBt
  obtain ⟨Bm, hBm⟩ : ∃ x, x = W1.heap.size := ⟨_, rfl⟩
  have HBM : Hid (Bm = W1.heap.size) := hBm
  rw [← hBt, ← hBm]
  rw [← hBt] at HS3
  clear hBt hBm
  refine kly_r3 HPK hw1 hw2 hi0 hi1 HS3 ?_
  intro c23 c24 c25 c26 c27 c28 c29 c30 c31 c32 c33 c34 c35 c36 c37 c38 c39 c40 c41 c42 c43
  simp only [Exit.then]
  obtain ⟨W, hW⟩ : ∃ W, W = (W2.alloc (.cells #[.int .i64 cv, .int .u64 cb, .int .u64 k0, .int .u64 k1, .int .u64 k2, .int .u64 k3] 26)).drew := ⟨_, rfl⟩
  rw [← hW]
  have HBW : Hid (Below W2.heap.size W2 W) := by rw [hW]; exact (below_alloc _ _).drew
  have HCW : Hid (W.heap[W2.heap.size]? = some (.cells #[.int .i64 cv, .int .u64 cb, .int .u64 k0, .int .u64 k1, .int .u64 k2, .int .u64 k3] 26 (0, 0))) := by rw [hW]; exact heap_alloc_new W2 _
  clear hW HS3 HPK hw1 hw2
  obtain ⟨Bc, hBc⟩ : ∃ x, x = W2.heap.size := ⟨_, rfl⟩
  rw [← hBc] at HCW ⊢
  have HBC : Hid (Bc = W2.heap.size) := hBc
  clear hBc
  have HBE : Hid (Below w.heap.size w W) := bnext HBB.out HBW.out
  have HS : Hid (KSit W p A ps K) := HS0.out.below HBE.out
  have HNB : Hid (¬ UA A Bt ∧ ¬ UA A Bm ∧ ¬ UA A Bc ∧ Bm ≠ Bt ∧ Bm ≠ Bc) := by
    have e1 := HBT.out; have e2 := HBM.out; have e3 := HBC.out; have e4 := HB1.out.2.1; have e5 := HB2.out.2.1
    refine ⟨?_, ?_, ?_, by omega, by omega⟩
    all_goals (rintro ⟨j, hj, hb⟩; have := HS0.out.lt j _ hj hb; omega)
  have HB0 : Hid (Bm ≠ 0) := by show Bm ≠ 0; have e2 := HBM.out; have e4 := HB1.out.2.1; omega
  have HBX : Hid (W.heap[Bt]? = some (.cells #[.int .i64 4, .int .i64 a, .int .i64 b] 66 (0, 0)) ∧ W.heap[Bm]? = some (.cells #[.int .i64 1, .int .i64 li, .int .i64 0, .int .i64 0, .int .i64 0, .int .u64 0, .int .u64 0, .int .u64 0, .int .u64 0, .int .u64 0, .string ⟨#[]⟩, .int .u64 0, .int .i64 0, .int .u64 0, .int .u64 0, .int .u64 0, .int .u64 0, .int .u64 0, .int .u64 0] 40 (0, 0)) ∧ W.heap[Bc]? = some (.cells #[.int .i64 cv, .int .u64 cb, .int .u64 k0, .int .u64 k1, .int .u64 k2, .int .u64 k3] 26 (0, 0))) := by
    rw [HBT.out, HBM.out]
    refine ⟨?_, ?_, HCW.out⟩
    · exact (HBW.out.block _ (Nat.lt_of_lt_of_le HB1.out.2.1 HB2.out.1.size)).trans ((HB2.out.1.block _ HB1.out.2.1).trans HB1.out.2.2)
    · exact (HBW.out.block _ HB2.out.2.1).trans HB2.out.2.2
  have HTB : Hid (∀ W', Fr (fun b => b = Bm) W W' → Tab W') := fun W' hW' => HS.out.k.tab.fr hW' (fun e => HB0.out e.symm)
  have tk : W.cell? ⟨Bt, 0, none⟩ = some (.int .i64 4) := cell_at HBX.out.1 0
  have HW1S : Hid (w.heap.size ≤ W1.heap.size) := HB1.out.1.size
  clear HB1 HB2 HBB HBW HCW HS0
  have hpk := pickN_lt a 4 (by decide)
  have HPK4 : Hid (∀ W, Calls Tryd.prog 13 #[.int .i64 a, .int .i64 4] W fun e w' => e = .returned (.int .i64 (pickN a 4 : Nat)) ∧ w' = W) := fun W => kpick a 4 a0 a1 (by decide) (by decide) W
  go_upto_if 61 with fail
  refine wp_cond_true rfl ?_
  have hpk3 : ((pickN a 4 : Nat) : Int) ≤ 3 := by omega
  have hli0 : 0 ≤ li := by rw [HLE.out]; exact HLI.out.1
  have hli3 : li ≤ 3 := by rw [HLE.out]; exact HLI.out.2
  refine kly_p (nn := nn) HPK4 hpk3 HCR.out.2.1 HCR.out.2.2 hli0 hli3 HS HO (by omega) HCR.out.1 HCN hnn HBX HNB HB0 ?_
  intro d8 d9 d63 d64 d65 d66 d67 d68 d69 d70 d71 d72 d73 d74 d75 d76 d77 d78 d79 d80 d81 d82 d83 d84 d85 d86 d87 d88 d89 d90 d91 d92 d93 d94 d95 w' S' v sq hv hsq hks hgr hfr hbm
  simp only [Exit.inBlock, Exit.then]
  have HBO : Hid (Blk.Ok ⟨v, ⟨cv, cb, k0, k1, k2, k3⟩, cmdText (nn + 1)⟩) := by
    have hu := upTo_le (cv + 1 + ((pickN a 4 : Nat) : Int)) li
    rw [← hv] at hu
    have h1 : 0 ≤ cv := HCR.out.2.1
    have h2 : cv ≤ 1000 := HCR.out.2.2
    exact ⟨by show _ ≤ v; omega, by show v ≤ _; omega, HCR.out.1, Nat.le_trans (cmd_size (nn + 1) (by omega)) (by decide)⟩
  have HVR : Hid (-9223372036854775808 ≤ v ∧ v ≤ 9223372036854775807) := ⟨HBO.out.v0, HBO.out.v1⟩
  have HLY : Hid (∀ go, K.lies 4 a b go = (({ K with count := ((nn + 1 : Nat) : Int) } : Clu).meets ⟨v, ⟨cv, cb, k0, k1, k2, k3⟩, cmdText (nn + 1)⟩).says ⟨1, li, v, ⟨v, ⟨cv, cb, k0, k1, k2, k3⟩, cmdText (nn + 1)⟩, 0, Crt.zero, sq⟩ go) := fun go => by
    unfold Clu.lies
    dsimp only
    rw [HGET.out, if_pos rfl]
    have e1 : K.count + 1 = ((nn + 1 : Nat) : Int) := by rw [HCN.out]; rfl
    have e2 : K.count.toNat = nn := by rw [HCN.out]; rfl
    rw [e1, e2, ← HLE.out, ← hv, ← hsq]
  have HOK3 : Hid (KOk (({ K with count := ((nn + 1 : Nat) : Int) } : Clu).meets ⟨v, ⟨cv, cb, k0, k1, k2, k3⟩, cmdText (nn + 1)⟩) (n + 1)) := meets_kok HO.out _ HBO.out
  have hUA : ∀ B, B < W.heap.size → ¬ UA A B → ¬ UA (updA A 0 S') B := fun B hB hn h => by
    rcases grow_u (i := 0) hgr B h with h1 | h1
    · exact hn h1
    · omega
  have HBT2 : Hid (w'.heap[Bt]? = some (.cells #[.int .i64 4, .int .i64 a, .int .i64 b] 66 (0, 0)) ∧ w'.heap[Bm]? = some (.cells #[.int .i64 1, .int .i64 li, .int .i64 v, .int .i64 v, .int .i64 cv, .int .u64 cb, .int .u64 k0, .int .u64 k1, .int .u64 k2, .int .u64 k3, .string (cmdText (nn + 1)), .int .u64 ((0 : Nat) : Int), .int .i64 0, .int .u64 ((0 : Nat) : Int), .int .u64 0, .int .u64 0, .int .u64 0, .int .u64 0, .int .u64 sq] 40 (0, 0)) ∧ ¬ UA (updA A 0 S') Bt ∧ ¬ UA (updA A 0 S') Bm) := by
    refine ⟨(hfr.block Bt (lt_at HBX.out.1) (fun h => ?_)).trans HBX.out.1, hbm, hUA Bt (lt_at HBX.out.1) HNB.out.1, hUA Bm (lt_at HBX.out.2.1) HNB.out.2.1⟩
    rcases h with h | h
    · exact HNB.out.1 ⟨0, by omega, h⟩
    · exact HNB.out.2.2.2.1 h.symm
  have HGW : Hid (Grow (UA A) w (UA (updA A 0 S')) ∧ Fr (UA A) w w') := by
    refine ⟨(Grow.refl (UA A) w).trans HBE.out.size (grow_u (i := 0) hgr), (Fr.of_below HBE.out).trans hfr (fun b h => ?_)⟩
    rcases h with h | h
    · exact .inl ⟨0, by omega, h⟩
    · right; rw [h, HBM.out]; exact HW1S.out
  have HKS : Hid (KSit w' p (updA A 0 S') ps (({ K with count := ((nn + 1 : Nat) : Int) } : Clu).meets ⟨v, ⟨cv, cb, k0, k1, k2, k3⟩, cmdText (nn + 1)⟩)) := hks
  clear hv hsq hks hgr hfr hbm hUA tk
  refine (?kk : ∀ (a : Act) (w : World), Code.wp Tryd.prog ?kc ?kq a w → _) _ _ ?goal
  case kk => assumption
  refine kly_says (n := n + 1) (kd := 4) (sa := a) (sb := b) HKS HOK3 (by omega) (⟨⟨HBO.out, by show (0 : Nat) < _; decide, crt_zero_ok⟩, HVR.out.1, HVR.out.2⟩ : Ltr.Ok ⟨-1, ⟨1, li, v, ⟨v, ⟨cv, cb, k0, k1, k2, k3⟩, cmdText (nn + 1)⟩, 0, ⟨0, 0, 0, 0, 0, 0⟩, sq⟩⟩) HBT2 ?_
  intro f11 f12 f13 f145 f146 f147 f148 f149 f150 f151 f152 f153 f154 f155 f156 f157 f158 f159 f160 f161 f162 f163 f164 f165 f166 f167 f168 f169 f170 f171 f172 f173 f174 f175 f176 f177 f178 f179 f180 f181 f182 f183 w9 go bo hbo hgo
  have HBO2 : Hid (bo = (K.lies 4 a b go).2) := by show _ = _; rw [HLY.out]; exact hbo
  have HGO2 : Hid (KGoes w w9 p A ps (K.lies 4 a b go).1) := by show KGoes _ _ _ _ _ _; rw [HLY.out]; exact hgo.trans HGW.out.1 HGW.out.2
  clear hbo hgo
  go_ret
  exact ⟨go, by rw [HBO2.out]; rfl, HGO2.out⟩
set_option maxRecDepth 1000000 in
set_option maxHeartbeats 8000000 in
theorem klies5 (w : World) (p : Nat) (A : Nat → Nat → Prop) (ps : List (Option Nat)) (K : Clu) (h : KSit w p A ps K) (n : Nat) (ok : KOk K n) (hn : n ≤ 1400000000) (a b : Int) (a0 : -9223372036854775808 ≤ a) (a1 : a ≤ 9223372036854775807) (b0 : -9223372036854775808 ≤ b) (b1 : b ≤ 9223372036854775807) (hl0 : 0 ≤ K.liar) (hl3 : K.liar ≤ 3) (hcr : ∀ c ∈ K.certs, c.Ok ∧ 0 ≤ c.view ∧ c.view ≤ 1000) (hc1 : 1 ≤ K.certs.length) :
    Calls Tryd.prog 40 #[.pointer (some ⟨p, 0, none⟩), .agg #[.int .i64 5, .int .i64 a, .int .i64 b]] w fun e w' => ∃ go, e = .returned (.bool (K.lies 5 a b go).2) ∧ KGoes w w' p A ps (K.lies 5 a b go).1 := by
  have HS0 : Hid (KSit w p A ps K) := h
  have HO : Hid (KOk K n) := ok
  obtain ⟨vc3, cl, hc3, hrow⟩ : ∃ al cl, w.cell? ⟨p, 3, none⟩ = some (.slice al K.certs.length cl) ∧ Row w (A 0) 26 6 (.slice al K.certs.length cl) K.certs.length (K.certs.flatMap Crt.cells) := by
    obtain ⟨vm, vl, vc, vv, l0, l1, l2, l3, vb, g1⟩ := h.k.ex
    have hr : Row w (A 0) 26 6 vc K.certs.length (K.certs.flatMap Crt.cells) := g1.row 2 _ _ _ rfl rfl rfl
    obtain ⟨am, cm, rfl⟩ := hr.isSlice
    exact ⟨am, cm, cell_at g1.box 3, hr⟩
  obtain ⟨g, off, rfl, hSg, hg, hcap⟩ := hrow.place (by omega)
  have hll : K.certs.length ≤ 1600000000 := by have := ok.len.ct; omega
  have hpl := pickN_lt b K.certs.length (by omega)
  have HPK : Hid (∀ W, Calls Tryd.prog 13 #[.int .i64 b, .int .i64 K.certs.length] W fun e w' => e = .returned (.int .i64 (pickN b K.certs.length : Nat)) ∧ W = w') := fun W => (kpick b K.certs.length b0 b1 (by omega) (by omega) W).mono (fun _ _ h => ⟨h.1, h.2.symm⟩)
  obtain ⟨pb, hpb⟩ : ∃ pb, pb = pickN b K.certs.length := ⟨_, rfl⟩
  rw [← hpb] at HPK hpl
  obtain ⟨i, hi⟩ : ∃ i, i = K.certs.length - 1 - pb := ⟨_, rfl⟩
  have hil : i < K.certs.length := by omega
  have hw1 : IntKind.i64.wrap ((K.certs.length : Int) - 1) = (K.certs.length : Int) - 1 := by rw [IntKind.wrap_i64]; omega
  have hw2 : IntKind.i64.wrap ((K.certs.length : Int) - 1 - (pb : Int)) = (i : Int) := by rw [IntKind.wrap_i64]; omega
  have hi0 : (0 : Int) ≤ (i : Int) := by omega
  have hi1 : (i : Int) < (K.certs.length : Int) := by omega
  have hget : K.certs.getD (K.certs.length - 1 - pickN b K.certs.length) Crt.zero = K.certs[i] := by
    rw [← hpb, ← hi, List.getD_eq_getElem?_getD, List.getElem?_eq_getElem hil]; rfl
  have HCR : Hid (K.certs[i].Ok ∧ 0 ≤ K.certs[i].view ∧ K.certs[i].view ≤ 1000) := hcr _ (List.getElem_mem hil)
  have hel := hrow.elemAt (show ∀ c : Crt, c.cells.length = 6 from fun _ => rfl) i hil
  have HGET : Hid (K.certs.getD (K.certs.length - 1 - pickN b K.certs.length) Crt.zero = K.certs[i]) := hget
  generalize K.certs[i] = c at HCR hel HGET
  obtain ⟨cv, cb, k0, k1, k2, k3⟩ := c
  have HLI : Hid (0 ≤ K.liar ∧ K.liar ≤ 3) := ⟨hl0, hl3⟩
  obtain ⟨li, hli⟩ : ∃ li, li = K.liar := ⟨_, rfl⟩
  have HLE : Hid (li = K.liar) := hli
  have hlc : w.cell? ⟨p, 1, none⟩ = some (.int .i64 li) := by
    obtain ⟨vm, vl, vc, vv, l0, l1, l2, l3, vb, g1⟩ := h.k.ex
    rw [hli]
    exact cell_at g1.box 1
  have hpW : p < w.heap.size := h.k.lt
  -- the step's box, the message's box
  obtain ⟨W1, hW1⟩ : ∃ W1, W1 = w.alloc (.cells #[.int .i64 5, .int .i64 a, .int .i64 b] 66) := ⟨_, rfl⟩
  have HB1 : Hid (Below w.heap.size w W1 ∧ w.heap.size < W1.heap.size ∧ W1.heap[w.heap.size]? = some (.cells #[.int .i64 5, .int .i64 a, .int .i64 b] 66 (0, 0))) := by
    rw [hW1]
    have := heap_alloc_new w (.cells #[.int .i64 5, .int .i64 a, .int .i64 b] 66)
    exact ⟨below_alloc _ _, lt_at this, this⟩
  have p1c : W1.cell? ⟨p, 1, none⟩ = some (.int .i64 li) := (HB1.out.1.cell (p := ⟨p, 1, none⟩) hpW).trans hlc
  have s0c : W1.cell? ⟨w.heap.size, 0, none⟩ = some (.int .i64 5) := cell_at HB1.out.2.2 0
  have hpu : (rowPut 40 ⟨W1.heap.size, 0, none⟩ (.agg #[.int .i64 2, .int .i64 li, .int .i64 0, .int .i64 0, .int .i64 0, .int .u64 0, .int .u64 0, .int .u64 0, .int .u64 0, .int .u64 0, .string ⟨#[]⟩, .int .u64 0, .int .i64 0, .int .u64 0, .int .u64 0, .int .u64 0, .int .u64 0, .int .u64 0, .int .u64 0])).run Tryd.prog (W1.alloc (.cells #[.int .i64 0, .int .i64 0, .int .i64 0, .int .i64 0, .int .i64 0, .int .u64 0, .int .u64 0, .int .u64 0, .int .u64 0, .int .u64 0, .string ⟨#[]⟩, .int .u64 0, .int .i64 0, .int .u64 0, .int .u64 0, .int .u64 0, .int .u64 0, .int .u64 0, .int .u64 0] 40)) = .ok () (W1.alloc (.cells #[.int .i64 2, .int .i64 li, .int .i64 0, .int .i64 0, .int .i64 0, .int .u64 0, .int .u64 0, .int .u64 0, .int .u64 0, .int .u64 0, .string ⟨#[]⟩, .int .u64 0, .int .i64 0, .int .u64 0, .int .u64 0, .int .u64 0, .int .u64 0, .int .u64 0, .int .u64 0] 40)) := (rowPut_mid _ W1.heap.size 0 40 #[.int .i64 2, .int .i64 li, .int .i64 0, .int .i64 0, .int .i64 0, .int .u64 0, .int .u64 0, .int .u64 0, .int .u64 0, .int .u64 0, .string ⟨#[]⟩, .int .u64 0, .int .i64 0, .int .u64 0, .int .u64 0, .int .u64 0, .int .u64 0, .int .u64 0, .int .u64 0] (start19 W1 _ rfl _) (by kernel_rfl) (by simp [Value.oneCell'])).trans (by rw [setCells_new, fill19])
  obtain ⟨W2, hW2⟩ : ∃ W2, W2 = W1.alloc (.cells #[.int .i64 2, .int .i64 li, .int .i64 0, .int .i64 0, .int .i64 0, .int .u64 0, .int .u64 0, .int .u64 0, .int .u64 0, .int .u64 0, .string ⟨#[]⟩, .int .u64 0, .int .i64 0, .int .u64 0, .int .u64 0, .int .u64 0, .int .u64 0, .int .u64 0, .int .u64 0] 40) := ⟨_, rfl⟩
  have HB2 : Hid (Below W1.heap.size W1 W2 ∧ W1.heap.size < W2.heap.size ∧ W2.heap[W1.heap.size]? = some (.cells #[.int .i64 2, .int .i64 li, .int .i64 0, .int .i64 0, .int .i64 0, .int .u64 0, .int .u64 0, .int .u64 0, .int .u64 0, .int .u64 0, .string ⟨#[]⟩, .int .u64 0, .int .i64 0, .int .u64 0, .int .u64 0, .int .u64 0, .int .u64 0, .int .u64 0, .int .u64 0] 40 (0, 0))) := by
    rw [hW2]
    have := heap_alloc_new W1 (.cells #[.int .i64 2, .int .i64 li, .int .i64 0, .int .i64 0, .int .i64 0, .int .u64 0, .int .u64 0, .int .u64 0, .int .u64 0, .int .u64 0, .string ⟨#[]⟩, .int .u64 0, .int .i64 0, .int .u64 0, .int .u64 0, .int .u64 0, .int .u64 0, .int .u64 0, .int .u64 0] 40)
    exact ⟨below_alloc _ _, lt_at this, this⟩
  have HBB : Hid (Below w.heap.size w W2) := bnext HB1.out.1 HB2.out.1
  have HS3 : Hid (∀ W, Below W2.heap.size W2 W → Below W2.heap.size W2 W ∧ W.cell? ⟨p, 3, none⟩ = some (.slice (some ⟨g, off, none⟩) K.certs.length cl) ∧ W.cell? ⟨w.heap.size, 2, none⟩ = some (.int .i64 b) ∧ W.cell? ⟨g, off + i * 6, none⟩ = some (.int .i64 cv) ∧ W.cell? ⟨g, off + i * 6 + 1, none⟩ = some (.int .u64 cb) ∧ W.cell? ⟨g, off + i * 6 + 2, none⟩ = some (.int .u64 k0) ∧ W.cell? ⟨g, off + i * 6 + 3, none⟩ = some (.int .u64 k1) ∧ W.cell? ⟨g, off + i * 6 + 4, none⟩ = some (.int .u64 k2) ∧ W.cell? ⟨g, off + i * 6 + 5, none⟩ = some (.int .u64 k3)) := fun W hW => by
    have hb := bnext HBB.out hW
    have hc : ∀ j v, (Crt.cells ⟨cv, cb, k0, k1, k2, k3⟩)[j]? = some v → W.cell? ⟨g, off + i * 6 + j, none⟩ = some v := fun j v hv => (hb.cell (p := ⟨g, off + i * 6 + j, none⟩) hg).trans (hel j v hv)
    have hbt : W.heap[w.heap.size]? = some (.cells #[.int .i64 5, .int .i64 a, .int .i64 b] 66 (0, 0)) := (hW.block _ (Nat.lt_of_lt_of_le HB1.out.2.1 HB2.out.1.size)).trans ((HB2.out.1.block _ HB1.out.2.1).trans HB1.out.2.2)
    exact ⟨hW, (hb.cell (p := ⟨p, 3, none⟩) hpW).trans hc3, cell_at hbt 2, hc 0 _ rfl, hc 1 _ rfl, hc 2 _ rfl, hc 3 _ rfl, hc 4 _ rfl, hc 5 _ rfl⟩
  clear h ok hcr hget hli hlc hrow hel hcap hSg hpb hi
  go_enter Tryd.func40, Tryd.ntmps40
  go_upto_region 1 with fail
  rw [← hW1]
  clear hW1
  go_upto_region 3 with fail
  rw [← hW2]
  clear p1c s0c hpu hW2
  obtain ⟨Bt, hBt⟩ : ∃ x, x = w.heap.size := ⟨_, rfl⟩
  have HBT : Hid (Bt = w.heap.size) := hBt
  obtain ⟨Bm, hBm⟩ : ∃ x, x = W1.heap.size := ⟨_, rfl⟩
  have HBM : Hid (Bm = W1.heap.size) := hBm
  rw [← hBt, ← hBm]
  rw [← hBt] at HS3
  clear hBt hBm
  refine kly_r3 HPK hw1 hw2 hi0 hi1 HS3 ?_
  intro c23 c24 c25 c26 c27 c28 c29 c30 c31 c32 c33 c34 c35 c36 c37 c38 c39 c40 c41 c42 c43
  simp only [Exit.then]
  obtain ⟨W, hW⟩ : ∃ W, W = (W2.alloc (.cells #[.int .i64 cv, .int .u64 cb, .int .u64 k0, .int .u64 k1, .int .u64 k2, .int .u64 k3] 26)).drew := ⟨_, rfl⟩
  rw [← hW]
  have HBW : Hid (Below W2.heap.size W2 W) := by rw [hW]; exact (below_alloc _ _).drew
  have HCW : Hid (W.heap[W2.heap.size]? = some (.cells #[.int .i64 cv, .int .u64 cb, .int .u64 k0, .int .u64 k1, .int .u64 k2, .int .u64 k3] 26 (0, 0))) := by rw [hW]; exact heap_alloc_new W2 _
  clear hW HS3 HPK hw1 hw2
  obtain ⟨Bc, hBc⟩ : ∃ x, x = W2.heap.size := ⟨_, rfl⟩
  rw [← hBc] at HCW ⊢
  have HBC : Hid (Bc = W2.heap.size) := hBc
  clear hBc
  have HBE : Hid (Below w.heap.size w W) := bnext HBB.out HBW.out
  have HS : Hid (KSit W p A ps K) := HS0.out.below HBE.out
  have HNB : Hid (¬ UA A Bt ∧ ¬ UA A Bm ∧ ¬ UA A Bc ∧ Bm ≠ Bt ∧ Bm ≠ Bc) := by
    have e1 := HBT.out; have e2 := HBM.out; have e3 := HBC.out; have e4 := HB1.out.2.1; have e5 := HB2.out.2.1
    refine ⟨?_, ?_, ?_, by omega, by omega⟩
    all_goals (rintro ⟨j, hj, hb⟩; have := HS0.out.lt j _ hj hb; omega)
  have HB0 : Hid (Bm ≠ 0) := by show Bm ≠ 0; have e2 := HBM.out; have e4 := HB1.out.2.1; omega
  have HBX : Hid (W.heap[Bt]? = some (.cells #[.int .i64 5, .int .i64 a, .int .i64 b] 66 (0, 0)) ∧ W.heap[Bm]? = some (.cells #[.int .i64 2, .int .i64 li, .int .i64 0, .int .i64 0, .int .i64 0, .int .u64 0, .int .u64 0, .int .u64 0, .int .u64 0, .int .u64 0, .string ⟨#[]⟩, .int .u64 0, .int .i64 0, .int .u64 0, .int .u64 0, .int .u64 0, .int .u64 0, .int .u64 0, .int .u64 0] 40 (0, 0)) ∧ W.heap[Bc]? = some (.cells #[.int .i64 cv, .int .u64 cb, .int .u64 k0, .int .u64 k1, .int .u64 k2, .int .u64 k3] 26 (0, 0))) := by
    rw [HBT.out, HBM.out]
    refine ⟨?_, ?_, HCW.out⟩
    · exact (HBW.out.block _ (Nat.lt_of_lt_of_le HB1.out.2.1 HB2.out.1.size)).trans ((HB2.out.1.block _ HB1.out.2.1).trans HB1.out.2.2)
    · exact (HBW.out.block _ HB2.out.2.1).trans HB2.out.2.2
  have HTB : Hid (∀ W', Fr (fun b => b = Bm) W W' → Tab W') := fun W' hW' => HS.out.k.tab.fr hW' (fun e => HB0.out e.symm)
  have tk : W.cell? ⟨Bt, 0, none⟩ = some (.int .i64 5) := cell_at HBX.out.1 0
  have HW1S : Hid (w.heap.size ≤ W1.heap.size) := HB1.out.1.size
  clear HB1 HB2 HBB HBW HCW HS0
  have HPK5 : Hid (K.letters.length ≠ 0 → ∀ W, Calls Tryd.prog 13 #[.int .i64 a, .int .i64 K.letters.length] W fun e w' => e = .returned (.int .i64 (pickN a K.letters.length : Nat)) ∧ W = w') := fun hz W => (kpick a K.letters.length a0 a1 (by omega) (by have := HO.out.len.lt; omega) W).mono (fun _ _ h => ⟨h.1, h.2.symm⟩)
  go_upto_if 96 with fail
  refine wp_cond_true rfl ?_
  have hli0 : 0 ≤ li := by rw [HLE.out]; exact HLI.out.1
  have hli3 : li ≤ 3 := by rw [HLE.out]; exact HLI.out.2
  refine kly_v HPK5 hli0 hli3 HS HO (by omega) HTB ⟨HBX.out.1, HBX.out.2.1⟩ ?_ ?_
  · intro d10 d98 d99 d100 d101 d102 d103 d104 d105 d106 d107 d108 d109 d110 d111 d112 d113 d114 d115 d116 d117 d118 d119 d120 d121 d122 d123 d124 d125 d126 d127 d128 d129 d130 d131 d132 d133 d134 d135 d136 d137 d138 d139 d140 d141 d142 d143 d144 w' hor hbl
    simp only [Exit.inBlock, Exit.then]
    have HLN : Hid (K.lies 5 a b (fun _ => true) = (K, true)) := by
      show _ = _
      unfold Clu.lies
      dsimp only
      rw [if_neg (by decide), if_pos rfl]
      rcases hor with h1 | h1
      · rw [if_pos h1]
      · by_cases h0 : K.letters.length = 0
        · rw [if_pos h0]
        · rw [if_neg h0, if_pos h1]
    have HGN : Hid (KGoes w w' p A ps K) := ⟨⟨A, HS.out.below hbl, Grow.refl _ _⟩, Fr.of_below (bnext HBE.out hbl)⟩
    clear hor hbl
    go_ret
    refine ⟨fun _ => true, ?_, ?_⟩
    · rw [HLN.out]; rfl
    · rw [HLN.out]; exact HGN.out
  intro d10 d98 d99 d100 d101 d102 d103 d104 d105 d106 d107 d108 d109 d110 d111 d112 d113 d114 d115 d116 d117 d118 d119 d120 d121 d122 d123 d124 d125 d126 d127 d128 d129 d130 d131 d132 d133 d134 d135 d136 d137 d138 d139 d140 d141 d142 d143 d144 w' l sq xv nb hl hz hk1 hxv hnb hsq hfr hbm
  simp only [Exit.inBlock, Exit.then]
  have HLR : Ltr.Ok l := by
    have hpl := pickN_lt a K.letters.length (by omega)
    have hil : K.letters.length - 1 - pickN a K.letters.length < K.letters.length := by omega
    rw [hl, List.getD_eq_getElem?_getD, List.getElem?_eq_getElem hil]
    exact HO.out.lt _ (List.getElem_mem hil)
  have HXO : Ltr.Ok ⟨-1, ⟨2, li, xv, ⟨0, ⟨0, 0, 0, 0, 0, 0⟩, ⟨#[]⟩⟩, nb, ⟨0, 0, 0, 0, 0, 0⟩, sq⟩⟩ := ⟨⟨blk_zero_ok, by show nb < _; rw [hnb]; exact num_lt _, crt_zero_ok⟩, by show _ ≤ xv; rw [hxv]; exact HLR.2.1, by show xv ≤ _; rw [hxv]; exact HLR.2.2⟩
  have HLY : Hid (∀ go, K.lies 5 a b go = K.says ⟨2, li, xv, ⟨0, ⟨0, 0, 0, 0, 0, 0⟩, ⟨#[]⟩⟩, nb, ⟨0, 0, 0, 0, 0, 0⟩, sq⟩ go) := fun go => by
    unfold Clu.lies
    dsimp only
    rw [if_neg (by decide), if_pos rfl, if_neg hz, ← hl, if_neg (by rw [hk1]; decide), ← hxv, ← hnb, ← HLE.out, ← hsq]
    rfl
  clear hl hz hk1 hxv hnb hsq HLR tk
  have HOK3 : Hid (KOk K n) := HO.out
  have HBT2 : Hid (w'.heap[Bt]? = some (.cells #[.int .i64 5, .int .i64 a, .int .i64 b] 66 (0, 0)) ∧ w'.heap[Bm]? = some (.cells #[.int .i64 2, .int .i64 li, .int .i64 xv, .int .i64 0, .int .i64 0, .int .u64 ((0 : Nat) : Int), .int .u64 0, .int .u64 0, .int .u64 0, .int .u64 0, .string ⟨#[]⟩, .int .u64 nb, .int .i64 0, .int .u64 ((0 : Nat) : Int), .int .u64 0, .int .u64 0, .int .u64 0, .int .u64 0, .int .u64 sq] 40 (0, 0)) ∧ ¬ UA A Bt ∧ ¬ UA A Bm) := ⟨(hfr.block Bt (lt_at HBX.out.1) (fun e => HNB.out.2.2.2.1 e.symm)).trans HBX.out.1, hbm, HNB.out.1, HNB.out.2.1⟩
  have HKS : Hid (KSit w' p A ps K) := HS.out.fr hfr (fun b hb e => HNB.out.2.1 (by rw [← e]; exact hb)) (fun e => HB0.out e.symm)
  have HGW : Hid (Grow (UA A) w (UA A) ∧ Fr (UA A) w w') := by
    refine ⟨Grow.refl _ _, (Fr.of_below HBE.out).trans hfr (fun b h => ?_)⟩
    right; rw [h, HBM.out]; exact HW1S.out
  clear hfr hbm
  refine (?kk : ∀ (a : Act) (w : World), Code.wp Tryd.prog ?kc ?kq a w → _) _ _ ?goal
  case kk => assumption
  refine kly_says (n := n) (kd := 5) (sa := a) (sb := b) HKS HOK3 (by omega) (HXO : Ltr.Ok ⟨-1, ⟨2, li, xv, ⟨0, ⟨0, 0, 0, 0, 0, 0⟩, ⟨#[]⟩⟩, nb, ⟨0, 0, 0, 0, 0, 0⟩, sq⟩⟩) HBT2 ?_
  intro f11 f12 f13 f145 f146 f147 f148 f149 f150 f151 f152 f153 f154 f155 f156 f157 f158 f159 f160 f161 f162 f163 f164 f165 f166 f167 f168 f169 f170 f171 f172 f173 f174 f175 f176 f177 f178 f179 f180 f181 f182 f183 w9 go bo hbo hgo
  have HBO2 : Hid (bo = (K.lies 5 a b go).2) := by show _ = _; rw [HLY.out]; exact hbo
  have HGO2 : Hid (KGoes w w9 p A ps (K.lies 5 a b go).1) := by show KGoes _ _ _ _ _ _; rw [HLY.out]; exact hgo.trans HGW.out.1 HGW.out.2
  clear hbo hgo
  go_ret
  exact ⟨go, by rw [HBO2.out]; rfl, HGO2.out⟩
set_option maxRecDepth 1000000 in
set_option maxHeartbeats 8000000 in
theorem klies6 (w : World) (p : Nat) (A : Nat → Nat → Prop) (ps : List (Option Nat)) (K : Clu) (h : KSit w p A ps K) (n : Nat) (ok : KOk K n) (hn : n ≤ 1400000000) (a b : Int) (a0 : -9223372036854775808 ≤ a) (a1 : a ≤ 9223372036854775807) (b0 : -9223372036854775808 ≤ b) (b1 : b ≤ 9223372036854775807) (hl0 : 0 ≤ K.liar) (hl3 : K.liar ≤ 3) (hcr : ∀ c ∈ K.certs, c.Ok ∧ 0 ≤ c.view ∧ c.view ≤ 1000) (hc1 : 1 ≤ K.certs.length) :
    Calls Tryd.prog 40 #[.pointer (some ⟨p, 0, none⟩), .agg #[.int .i64 6, .int .i64 a, .int .i64 b]] w fun e w' => ∃ go, e = .returned (.bool (K.lies 6 a b go).2) ∧ KGoes w w' p A ps (K.lies 6 a b go).1 := by
  have HS0 : Hid (KSit w p A ps K) := h
  have HO : Hid (KOk K n) := ok
  obtain ⟨vc3, cl, hc3, hrow⟩ : ∃ al cl, w.cell? ⟨p, 3, none⟩ = some (.slice al K.certs.length cl) ∧ Row w (A 0) 26 6 (.slice al K.certs.length cl) K.certs.length (K.certs.flatMap Crt.cells) := by
    obtain ⟨vm, vl, vc, vv, l0, l1, l2, l3, vb, g1⟩ := h.k.ex
    have hr : Row w (A 0) 26 6 vc K.certs.length (K.certs.flatMap Crt.cells) := g1.row 2 _ _ _ rfl rfl rfl
    obtain ⟨am, cm, rfl⟩ := hr.isSlice
    exact ⟨am, cm, cell_at g1.box 3, hr⟩
  obtain ⟨g, off, rfl, hSg, hg, hcap⟩ := hrow.place (by omega)
  have hll : K.certs.length ≤ 1600000000 := by have := ok.len.ct; omega
  have hpl := pickN_lt b K.certs.length (by omega)
  have HPK : Hid (∀ W, Calls Tryd.prog 13 #[.int .i64 b, .int .i64 K.certs.length] W fun e w' => e = .returned (.int .i64 (pickN b K.certs.length : Nat)) ∧ W = w') := fun W => (kpick b K.certs.length b0 b1 (by omega) (by omega) W).mono (fun _ _ h => ⟨h.1, h.2.symm⟩)
  obtain ⟨pb, hpb⟩ : ∃ pb, pb = pickN b K.certs.length := ⟨_, rfl⟩
  rw [← hpb] at HPK hpl
  obtain ⟨i, hi⟩ : ∃ i, i = K.certs.length - 1 - pb := ⟨_, rfl⟩
  have hil : i < K.certs.length := by omega
  have hw1 : IntKind.i64.wrap ((K.certs.length : Int) - 1) = (K.certs.length : Int) - 1 := by rw [IntKind.wrap_i64]; omega
  have hw2 : IntKind.i64.wrap ((K.certs.length : Int) - 1 - (pb : Int)) = (i : Int) := by rw [IntKind.wrap_i64]; omega
  have hi0 : (0 : Int) ≤ (i : Int) := by omega
  have hi1 : (i : Int) < (K.certs.length : Int) := by omega
  have hget : K.certs.getD (K.certs.length - 1 - pickN b K.certs.length) Crt.zero = K.certs[i] := by
    rw [← hpb, ← hi, List.getD_eq_getElem?_getD, List.getElem?_eq_getElem hil]; rfl
  have HCR : Hid (K.certs[i].Ok ∧ 0 ≤ K.certs[i].view ∧ K.certs[i].view ≤ 1000) := hcr _ (List.getElem_mem hil)
  have hel := hrow.elemAt (show ∀ c : Crt, c.cells.length = 6 from fun _ => rfl) i hil
  have HGET : Hid (K.certs.getD (K.certs.length - 1 - pickN b K.certs.length) Crt.zero = K.certs[i]) := hget
  generalize K.certs[i] = c at HCR hel HGET
  obtain ⟨cv, cb, k0, k1, k2, k3⟩ := c
  have HLI : Hid (0 ≤ K.liar ∧ K.liar ≤ 3) := ⟨hl0, hl3⟩
  obtain ⟨li, hli⟩ : ∃ li, li = K.liar := ⟨_, rfl⟩
  have HLE : Hid (li = K.liar) := hli
  have hlc : w.cell? ⟨p, 1, none⟩ = some (.int .i64 li) := by
    obtain ⟨vm, vl, vc, vv, l0, l1, l2, l3, vb, g1⟩ := h.k.ex
    rw [hli]
    exact cell_at g1.box 1
  have hpW : p < w.heap.size := h.k.lt
  -- the step's box, the message's box
  obtain ⟨W1, hW1⟩ : ∃ W1, W1 = w.alloc (.cells #[.int .i64 6, .int .i64 a, .int .i64 b] 66) := ⟨_, rfl⟩
  have HB1 : Hid (Below w.heap.size w W1 ∧ w.heap.size < W1.heap.size ∧ W1.heap[w.heap.size]? = some (.cells #[.int .i64 6, .int .i64 a, .int .i64 b] 66 (0, 0))) := by
    rw [hW1]
    have := heap_alloc_new w (.cells #[.int .i64 6, .int .i64 a, .int .i64 b] 66)
    exact ⟨below_alloc _ _, lt_at this, this⟩
  have p1c : W1.cell? ⟨p, 1, none⟩ = some (.int .i64 li) := (HB1.out.1.cell (p := ⟨p, 1, none⟩) hpW).trans hlc
  have s0c : W1.cell? ⟨w.heap.size, 0, none⟩ = some (.int .i64 6) := cell_at HB1.out.2.2 0
  have hpu : (rowPut 40 ⟨W1.heap.size, 0, none⟩ (.agg #[.int .i64 3, .int .i64 li, .int .i64 0, .int .i64 0, .int .i64 0, .int .u64 0, .int .u64 0, .int .u64 0, .int .u64 0, .int .u64 0, .string ⟨#[]⟩, .int .u64 0, .int .i64 0, .int .u64 0, .int .u64 0, .int .u64 0, .int .u64 0, .int .u64 0, .int .u64 0])).run Tryd.prog (W1.alloc (.cells #[.int .i64 0, .int .i64 0, .int .i64 0, .int .i64 0, .int .i64 0, .int .u64 0, .int .u64 0, .int .u64 0, .int .u64 0, .int .u64 0, .string ⟨#[]⟩, .int .u64 0, .int .i64 0, .int .u64 0, .int .u64 0, .int .u64 0, .int .u64 0, .int .u64 0, .int .u64 0] 40)) = .ok () (W1.alloc (.cells #[.int .i64 3, .int .i64 li, .int .i64 0, .int .i64 0, .int .i64 0, .int .u64 0, .int .u64 0, .int .u64 0, .int .u64 0, .int .u64 0, .string ⟨#[]⟩, .int .u64 0, .int .i64 0, .int .u64 0, .int .u64 0, .int .u64 0, .int .u64 0, .int .u64 0, .int .u64 0] 40)) := (rowPut_mid _ W1.heap.size 0 40 #[.int .i64 3, .int .i64 li, .int .i64 0, .int .i64 0, .int .i64 0, .int .u64 0, .int .u64 0, .int .u64 0, .int .u64 0, .int .u64 0, .string ⟨#[]⟩, .int .u64 0, .int .i64 0, .int .u64 0, .int .u64 0, .int .u64 0, .int .u64 0, .int .u64 0, .int .u64 0] (start19 W1 _ rfl _) (by kernel_rfl) (by simp [Value.oneCell'])).trans (by rw [setCells_new, fill19])
  obtain ⟨W2, hW2⟩ : ∃ W2, W2 = W1.alloc (.cells #[.int .i64 3, .int .i64 li, .int .i64 0, .int .i64 0, .int .i64 0, .int .u64 0, .int .u64 0, .int .u64 0, .int .u64 0, .int .u64 0, .string ⟨#[]⟩, .int .u64 0, .int .i64 0, .int .u64 0, .int .u64 0, .int .u64 0, .int .u64 0, .int .u64 0, .int .u64 0] 40) := ⟨_, rfl⟩
  have HB2 : Hid (Below W1.heap.size W1 W2 ∧ W1.heap.size < W2.heap.size ∧ W2.heap[W1.heap.size]? = some (.cells #[.int .i64 3, .int .i64 li, .int .i64 0, .int .i64 0, .int .i64 0, .int .u64 0, .int .u64 0, .int .u64 0, .int .u64 0, .int .u64 0, .string ⟨#[]⟩, .int .u64 0, .int .i64 0, .int .u64 0, .int .u64 0, .int .u64 0, .int .u64 0, .int .u64 0, .int .u64 0] 40 (0, 0))) := by
    rw [hW2]
    have := heap_alloc_new W1 (.cells #[.int .i64 3, .int .i64 li, .int .i64 0, .int .i64 0, .int .i64 0, .int .u64 0, .int .u64 0, .int .u64 0, .int .u64 0, .int .u64 0, .string ⟨#[]⟩, .int .u64 0, .int .i64 0, .int .u64 0, .int .u64 0, .int .u64 0, .int .u64 0, .int .u64 0, .int .u64 0] 40)
    exact ⟨below_alloc _ _, lt_at this, this⟩
  have HBB : Hid (Below w.heap.size w W2) := bnext HB1.out.1 HB2.out.1
  have HS3 : Hid (∀ W, Below W2.heap.size W2 W → Below W2.heap.size W2 W ∧ W.cell? ⟨p, 3, none⟩ = some (.slice (some ⟨g, off, none⟩) K.certs.length cl) ∧ W.cell? ⟨w.heap.size, 2, none⟩ = some (.int .i64 b) ∧ W.cell? ⟨g, off + i * 6, none⟩ = some (.int .i64 cv) ∧ W.cell? ⟨g, off + i * 6 + 1, none⟩ = some (.int .u64 cb) ∧ W.cell? ⟨g, off + i * 6 + 2, none⟩ = some (.int .u64 k0) ∧ W.cell? ⟨g, off + i * 6 + 3, none⟩ = some (.int .u64 k1) ∧ W.cell? ⟨g, off + i * 6 + 4, none⟩ = some (.int .u64 k2) ∧ W.cell? ⟨g, off + i * 6 + 5, none⟩ = some (.int .u64 k3)) := fun W hW => by
    have hb := bnext HBB.out hW
    have hc : ∀ j v, (Crt.cells ⟨cv, cb, k0, k1, k2, k3⟩)[j]? = some v → W.cell? ⟨g, off + i * 6 + j, none⟩ = some v := fun j v hv => (hb.cell (p := ⟨g, off + i * 6 + j, none⟩) hg).trans (hel j v hv)
    have hbt : W.heap[w.heap.size]? = some (.cells #[.int .i64 6, .int .i64 a, .int .i64 b] 66 (0, 0)) := (hW.block _ (Nat.lt_of_lt_of_le HB1.out.2.1 HB2.out.1.size)).trans ((HB2.out.1.block _ HB1.out.2.1).trans HB1.out.2.2)
    exact ⟨hW, (hb.cell (p := ⟨p, 3, none⟩) hpW).trans hc3, cell_at hbt 2, hc 0 _ rfl, hc 1 _ rfl, hc 2 _ rfl, hc 3 _ rfl, hc 4 _ rfl, hc 5 _ rfl⟩
  clear h ok hcr hget hli hlc hrow hel hcap hSg hpb hi
  go_enter Tryd.func40, Tryd.ntmps40
  go_upto_region 1 with fail
  rw [← hW1]
  clear hW1
  go_upto_region 3 with fail
  rw [← hW2]
  clear p1c s0c hpu hW2
  obtain ⟨Bt, hBt⟩ : ∃ x, x = w.heap.size := ⟨_, rfl⟩
  have HBT : Hid (Bt = w.heap.size) := hBt
  obtain ⟨Bm, hBm⟩ : ∃ x, x = W1.heap.size := ⟨_, rfl⟩
  have HBM : Hid (Bm = W1.heap.size) := hBm
  rw [← hBt, ← hBm]
  rw [← hBt] at HS3
  clear hBt hBm
  refine kly_r3 HPK hw1 hw2 hi0 hi1 HS3 ?_
  intro c23 c24 c25 c26 c27 c28 c29 c30 c31 c32 c33 c34 c35 c36 c37 c38 c39 c40 c41 c42 c43
  simp only [Exit.then]
  obtain ⟨W, hW⟩ : ∃ W, W = (W2.alloc (.cells #[.int .i64 cv, .int .u64 cb, .int .u64 k0, .int .u64 k1, .int .u64 k2, .int .u64 k3] 26)).drew := ⟨_, rfl⟩
  rw [← hW]
  have HBW : Hid (Below W2.heap.size W2 W) := by rw [hW]; exact (below_alloc _ _).drew
  have HCW : Hid (W.heap[W2.heap.size]? = some (.cells #[.int .i64 cv, .int .u64 cb, .int .u64 k0, .int .u64 k1, .int .u64 k2, .int .u64 k3] 26 (0, 0))) := by rw [hW]; exact heap_alloc_new W2 _
  clear hW HS3 HPK hw1 hw2
  obtain ⟨Bc, hBc⟩ : ∃ x, x = W2.heap.size := ⟨_, rfl⟩
  rw [← hBc] at HCW ⊢
  have HBC : Hid (Bc = W2.heap.size) := hBc
  clear hBc
  have HBE : Hid (Below w.heap.size w W) := bnext HBB.out HBW.out
  have HS : Hid (KSit W p A ps K) := HS0.out.below HBE.out
  have HNB : Hid (¬ UA A Bt ∧ ¬ UA A Bm ∧ ¬ UA A Bc ∧ Bm ≠ Bt ∧ Bm ≠ Bc) := by
    have e1 := HBT.out; have e2 := HBM.out; have e3 := HBC.out; have e4 := HB1.out.2.1; have e5 := HB2.out.2.1
    refine ⟨?_, ?_, ?_, by omega, by omega⟩
    all_goals (rintro ⟨j, hj, hb⟩; have := HS0.out.lt j _ hj hb; omega)
  have HB0 : Hid (Bm ≠ 0) := by show Bm ≠ 0; have e2 := HBM.out; have e4 := HB1.out.2.1; omega
  have HBX : Hid (W.heap[Bt]? = some (.cells #[.int .i64 6, .int .i64 a, .int .i64 b] 66 (0, 0)) ∧ W.heap[Bm]? = some (.cells #[.int .i64 3, .int .i64 li, .int .i64 0, .int .i64 0, .int .i64 0, .int .u64 0, .int .u64 0, .int .u64 0, .int .u64 0, .int .u64 0, .string ⟨#[]⟩, .int .u64 0, .int .i64 0, .int .u64 0, .int .u64 0, .int .u64 0, .int .u64 0, .int .u64 0, .int .u64 0] 40 (0, 0)) ∧ W.heap[Bc]? = some (.cells #[.int .i64 cv, .int .u64 cb, .int .u64 k0, .int .u64 k1, .int .u64 k2, .int .u64 k3] 26 (0, 0))) := by
    rw [HBT.out, HBM.out]
    refine ⟨?_, ?_, HCW.out⟩
    · exact (HBW.out.block _ (Nat.lt_of_lt_of_le HB1.out.2.1 HB2.out.1.size)).trans ((HB2.out.1.block _ HB1.out.2.1).trans HB1.out.2.2)
    · exact (HBW.out.block _ HB2.out.2.1).trans HB2.out.2.2
  have HTB : Hid (∀ W', Fr (fun b => b = Bm) W W' → Tab W') := fun W' hW' => HS.out.k.tab.fr hW' (fun e => HB0.out e.symm)
  have tk : W.cell? ⟨Bt, 0, none⟩ = some (.int .i64 6) := cell_at HBX.out.1 0
  have HW1S : Hid (w.heap.size ≤ W1.heap.size) := HB1.out.1.size
  clear HB1 HB2 HBB HBW HCW HS0
  have hpk := pickN_lt a 6 (by decide)
  have HPK6 : Hid (∀ W, Calls Tryd.prog 13 #[.int .i64 a, .int .i64 6] W fun e w' => e = .returned (.int .i64 (pickN a 6 : Nat)) ∧ W = w') := fun W => (kpick a 6 a0 a1 (by decide) (by decide) W).mono (fun _ _ h => ⟨h.1, h.2.symm⟩)
  go_upto_if 96 with fail
  refine wp_cond_false rfl ?_
  have hpk5 : ((pickN a 6 : Nat) : Int) ≤ 5 := by omega
  have hli0 : 0 ≤ li := by rw [HLE.out]; exact HLI.out.1
  have hli3 : li ≤ 3 := by rw [HLE.out]; exact HLI.out.2
  refine kly_e HPK6 hpk5 HCR.out.2.1 HCR.out.2.2 hli0 hli3 HTB HBX HNB.out.2.2.2.2 ?_
  intro d46 d47 d48 d49 d50 d51 d52 d53 d54 d55 d56 d57 d58 d59 d60 w' v sq hv hsq hfr hbm
  simp only [Exit.inBlock, Exit.then]
  dsimp only at hv hbm
  have h1 : 0 ≤ cv := HCR.out.2.1
  have h2 : cv ≤ 1000 := HCR.out.2.2
  have HXO : Ltr.Ok ⟨-1, ⟨3, li, v, ⟨0, ⟨0, 0, 0, 0, 0, 0⟩, ⟨#[]⟩⟩, 0, ⟨cv, cb, k0, k1, k2, k3⟩, sq⟩⟩ := ⟨⟨blk_zero_ok, by show (0 : Nat) < _; decide, HCR.out.1⟩, by show _ ≤ v; omega, by show v ≤ _; omega⟩
  have HLY : Hid (∀ go, K.lies 6 a b go = K.says ⟨3, li, v, ⟨0, ⟨0, 0, 0, 0, 0, 0⟩, ⟨#[]⟩⟩, 0, ⟨cv, cb, k0, k1, k2, k3⟩, sq⟩ go) := fun go => by
    unfold Clu.lies
    dsimp only
    rw [HGET.out, if_neg (by decide), if_neg (by decide)]
    show K.says ⟨3, K.liar, cv + 1 + ((pickN a 6 : Nat) : Int), Blk.zero, 0, ⟨cv, cb, k0, k1, k2, k3⟩, sealOf K.liar 3 (cv + 1 + ((pickN a 6 : Nat) : Int)) 0⟩ go = _
    rw [← HLE.out, ← hv, ← hsq]
    rfl
  clear hv hsq tk
  have HOK3 : Hid (KOk K n) := HO.out
  have HBT2 : Hid (w'.heap[Bt]? = some (.cells #[.int .i64 6, .int .i64 a, .int .i64 b] 66 (0, 0)) ∧ w'.heap[Bm]? = some (.cells #[.int .i64 3, .int .i64 li, .int .i64 v, .int .i64 0, .int .i64 0, .int .u64 ((0 : Nat) : Int), .int .u64 0, .int .u64 0, .int .u64 0, .int .u64 0, .string ⟨#[]⟩, .int .u64 ((0 : Nat) : Int), .int .i64 cv, .int .u64 cb, .int .u64 k0, .int .u64 k1, .int .u64 k2, .int .u64 k3, .int .u64 sq] 40 (0, 0)) ∧ ¬ UA A Bt ∧ ¬ UA A Bm) := ⟨(hfr.block Bt (lt_at HBX.out.1) (fun e => HNB.out.2.2.2.1 e.symm)).trans HBX.out.1, hbm, HNB.out.1, HNB.out.2.1⟩
  have HKS : Hid (KSit w' p A ps K) := HS.out.fr hfr (fun b hb e => HNB.out.2.1 (by rw [← e]; exact hb)) (fun e => HB0.out e.symm)
  have HGW : Hid (Grow (UA A) w (UA A) ∧ Fr (UA A) w w') := by
    refine ⟨Grow.refl _ _, (Fr.of_below HBE.out).trans hfr (fun b h => ?_)⟩
    right; rw [h, HBM.out]; exact HW1S.out
  clear hfr hbm
  refine (?kk : ∀ (a : Act) (w : World), Code.wp Tryd.prog ?kc ?kq a w → _) _ _ ?goal
  case kk => assumption
  refine kly_says (n := n) (kd := 6) (sa := a) (sb := b) HKS HOK3 (by omega) (HXO : Ltr.Ok ⟨-1, ⟨3, li, v, ⟨0, ⟨0, 0, 0, 0, 0, 0⟩, ⟨#[]⟩⟩, 0, ⟨cv, cb, k0, k1, k2, k3⟩, sq⟩⟩) HBT2 ?_
  intro f11 f12 f13 f145 f146 f147 f148 f149 f150 f151 f152 f153 f154 f155 f156 f157 f158 f159 f160 f161 f162 f163 f164 f165 f166 f167 f168 f169 f170 f171 f172 f173 f174 f175 f176 f177 f178 f179 f180 f181 f182 f183 w9 go bo hbo hgo
  have HBO2 : Hid (bo = (K.lies 6 a b go).2) := by show _ = _; rw [HLY.out]; exact hbo
  have HGO2 : Hid (KGoes w w9 p A ps (K.lies 6 a b go).1) := by show KGoes _ _ _ _ _ _; rw [HLY.out]; exact hgo.trans HGW.out.1 HGW.out.2
  clear hbo hgo
  go_ret
  exact ⟨go, by rw [HBO2.out]; rfl, HGO2.out⟩
end Go.Proofs.YtkehpnobidendaaDoor

namespace Go.Proofs.YtkehpnobidendaaDoor
open Go.RowKit

/-- A step that is none. -/
theorem happens_else {K : Clu} {kd a b : Int} {go : Nat → Bool} (h : kd ≠ 1 ∧ kd ≠ 2 ∧ kd ≠ 3 ∧ kd ≠ 4 ∧ kd ≠ 5 ∧ kd ≠ 6) : K.happens kd a b go = (K, true) := by
  unfold Clu.happens
  rw [if_neg h.1, if_neg h.2.1, if_neg h.2.2.1, if_neg (by omega)]
set_option maxRecDepth 100000 in
set_option maxHeartbeats 4000000 in
theorem khappens0 (w : World) (p : Nat) (A : Nat → Nat → Prop) (ps : List (Option Nat)) (K : Clu) (h : KSit w p A ps K) (kd a b : Int) (hkd : kd ≠ 1 ∧ kd ≠ 2 ∧ kd ≠ 3 ∧ kd ≠ 4 ∧ kd ≠ 5 ∧ kd ≠ 6) (a0 : -9223372036854775808 ≤ a) (a1 : a ≤ 9223372036854775807) :
    Calls Tryd.prog 22 #[.pointer (some ⟨p, 0, none⟩), .agg #[.int .i64 kd, .int .i64 a, .int .i64 b]] w fun e w' => ∃ go, e = .returned (.bool (K.happens kd a b go).2) ∧ KGoes w w' p A ps (K.happens kd a b go).1 := by
  have HPI : Hid (∀ W, Calls Tryd.prog 13 #[.int .i64 a, .int .i64 4] W fun e w' => e = .returned (.int .i64 (pickN a 4)) ∧ W = w') := fun W => (kpick a 4 a0 a1 (by decide) (by decide) W).mono (fun _ _ h => ⟨h.1, h.2.symm⟩)
  have HK : Hid (KSit w p A ps K) := h
  have HR : Hid (K.happens kd a b (fun _ => true) = (K, true)) := happens_else hkd
  obtain ⟨q1, q2, q3, q4, q5, q6⟩ := hkd
  have e1 : (kd == 1) = false := beq_eq_false_iff_ne.2 q1
  have e2 : (kd == 2) = false := beq_eq_false_iff_ne.2 q2
  have e3 : (kd == 3) = false := beq_eq_false_iff_ne.2 q3
  have e4 : (kd == 4) = false := beq_eq_false_iff_ne.2 q4
  have e5 : (kd == 5) = false := beq_eq_false_iff_ne.2 q5
  have e6 : (kd == 6) = false := beq_eq_false_iff_ne.2 q6
  clear h q1 q2 q3 q4 q5 q6
  go_enter Tryd.func22, Tryd.ntmps22
  go_wp2_with (go_at_call 13; refine (HPI.out _).mono ?_; rintro e w1 ⟨rfl, rfl⟩)
  go_ret
  refine ⟨fun _ => true, ?_, ?_⟩
  · rw [HR.out]; rfl
  · rw [HR.out]; exact ⟨⟨A, HK.out.below (below_alloc _ _), Grow.refl _ _⟩, Fr.of_below (below_alloc _ _)⟩
set_option maxRecDepth 100000 in
set_option maxHeartbeats 4000000 in
theorem khappens4 (w : World) (p : Nat) (A : Nat → Nat → Prop) (ps : List (Option Nat)) (K : Clu) (h : KSit w p A ps K) (n : Nat) (ok : KOk K n) (hn : n ≤ 1400000000) (a b : Int) (a0 : -9223372036854775808 ≤ a) (a1 : a ≤ 9223372036854775807) (b0 : -9223372036854775808 ≤ b) (b1 : b ≤ 9223372036854775807) (hl0 : 0 ≤ K.liar) (hl3 : K.liar ≤ 3) (hcr : ∀ c ∈ K.certs, c.Ok ∧ 0 ≤ c.view ∧ c.view ≤ 1000) (hc1 : 1 ≤ K.certs.length) (nn : Nat) (hcn : K.count = (nn : Int)) (hnn : nn ≤ 20000000000001) :
    Calls Tryd.prog 22 #[.pointer (some ⟨p, 0, none⟩), .agg #[.int .i64 4, .int .i64 a, .int .i64 b]] w fun e w' => ∃ go, e = .returned (.bool (K.happens 4 a b go).2) ∧ KGoes w w' p A ps (K.happens 4 a b go).1 := by
  have HPI : Hid (∀ W, Calls Tryd.prog 13 #[.int .i64 a, .int .i64 4] W fun e w' => e = .returned (.int .i64 (pickN a 4)) ∧ W = w') := fun W => (kpick a 4 a0 a1 (by decide) (by decide) W).mono (fun _ _ h => ⟨h.1, h.2.symm⟩)
  obtain ⟨W1, hW1⟩ : ∃ W, W = w.alloc (.cells #[.int .i64 4, .int .i64 a, .int .i64 b] 66) := ⟨_, rfl⟩
  have HB1 : Hid (Below w.heap.size w W1) := by rw [hW1]; exact below_alloc _ _
  have HK1 : Hid (KSit W1 p A ps K) := h.below HB1.out
  have hbt : W1.heap[w.heap.size]? = some (.cells #[.int .i64 4, .int .i64 a, .int .i64 b] 66 (0, 0)) := by rw [hW1]; exact heap_alloc_new w _
  have t0 : W1.cell? ⟨w.heap.size, 0, none⟩ = some (.int .i64 4) := cell_at hbt 0
  have t1 : W1.cell? ⟨w.heap.size, 1, none⟩ = some (.int .i64 a) := cell_at hbt 1
  have t2 : W1.cell? ⟨w.heap.size, 2, none⟩ = some (.int .i64 b) := cell_at hbt 2
  have lc : W1.cell? ⟨p, 1, none⟩ = some (.int .i64 K.liar) := by
    obtain ⟨vm, vl, vc, vv, l0, l1, l2, l3, vb, g1⟩ := HK1.out.k.ex
    exact cell_at g1.box 1
  obtain ⟨al, cl, q2, _⟩ := HK1.out.lcells
  have HLI : Hid (Calls Tryd.prog 40 #[.pointer (some ⟨p, 0, none⟩), .agg #[.int .i64 4, .int .i64 a, .int .i64 b]] W1 fun e w' => ∃ go, e = .returned (.bool (K.lies 4 a b go).2) ∧ KGoes W1 w' p A ps (K.lies 4 a b go).1) := klies4 W1 p A ps K HK1.out n ok hn a b a0 a1 b0 b1 hl0 hl3 hcr hc1 nn hcn hnn
  have hll : (K.letters.length : Int) ≤ 1600000000 := by have := ok.len.lt; omega
  clear h ok hcr hbt hcn
  have HY : Hid (∀ go, K.letters.length < 3000 → K.happens 4 a b go = K.lies 4 a b go) := fun go hl => by
    unfold Clu.happens
    rw [if_neg (by decide), if_neg (by decide), if_neg (by decide), if_pos (by decide), if_pos hl]
  have HN : Hid (∀ go, ¬ K.letters.length < 3000 → K.happens 4 a b go = (K, true)) := fun go hl => by
    unfold Clu.happens
    rw [if_neg (by decide), if_neg (by decide), if_neg (by decide), if_pos (by decide), if_neg hl]
  go_enter Tryd.func22, Tryd.ntmps22
  go_upto_region 1 with fail
  rw [← hW1]
  clear hW1
  by_cases h3 : K.letters.length < 3000
  · have h3i : (K.letters.length : Int) < 3000 := by omega
    go_wp2_with (first | (go_at_call 13; refine (HPI.out _).mono ?_; rintro e w1 ⟨rfl, rfl⟩) | (go_at_call 40; refine HLI.out.mono ?_; rintro e w3 ⟨go, rfl, hg⟩; have HG : Hid (KGoes W1 w3 p A ps (K.lies 4 a b go).1) := hg; clear hg))
    go_ret
    refine ⟨go, ?_, ?_⟩
    · rw [HY.out go h3]; rfl
    · rw [HY.out go h3]; exact kgoes_below HB1.out HG.out
  · have h3i : ¬ (K.letters.length : Int) < 3000 := by omega
    go_wp2_with (go_at_call 13; refine (HPI.out _).mono ?_; rintro e w1 ⟨rfl, rfl⟩)
    go_ret
    refine ⟨fun _ => true, ?_, ?_⟩
    · rw [HN.out _ h3]; rfl
    · rw [HN.out _ h3]; exact ⟨⟨A, HK1.out, Grow.refl _ _⟩, Fr.of_below HB1.out⟩
set_option maxRecDepth 100000 in
set_option maxHeartbeats 4000000 in
theorem khappens5 (w : World) (p : Nat) (A : Nat → Nat → Prop) (ps : List (Option Nat)) (K : Clu) (h : KSit w p A ps K) (n : Nat) (ok : KOk K n) (hn : n ≤ 1400000000) (a b : Int) (a0 : -9223372036854775808 ≤ a) (a1 : a ≤ 9223372036854775807) (b0 : -9223372036854775808 ≤ b) (b1 : b ≤ 9223372036854775807) (hl0 : 0 ≤ K.liar) (hl3 : K.liar ≤ 3) (hcr : ∀ c ∈ K.certs, c.Ok ∧ 0 ≤ c.view ∧ c.view ≤ 1000) (hc1 : 1 ≤ K.certs.length) :
    Calls Tryd.prog 22 #[.pointer (some ⟨p, 0, none⟩), .agg #[.int .i64 5, .int .i64 a, .int .i64 b]] w fun e w' => ∃ go, e = .returned (.bool (K.happens 5 a b go).2) ∧ KGoes w w' p A ps (K.happens 5 a b go).1 := by
  have HPI : Hid (∀ W, Calls Tryd.prog 13 #[.int .i64 a, .int .i64 4] W fun e w' => e = .returned (.int .i64 (pickN a 4)) ∧ W = w') := fun W => (kpick a 4 a0 a1 (by decide) (by decide) W).mono (fun _ _ h => ⟨h.1, h.2.symm⟩)
  obtain ⟨W1, hW1⟩ : ∃ W, W = w.alloc (.cells #[.int .i64 5, .int .i64 a, .int .i64 b] 66) := ⟨_, rfl⟩
  have HB1 : Hid (Below w.heap.size w W1) := by rw [hW1]; exact below_alloc _ _
  have HK1 : Hid (KSit W1 p A ps K) := h.below HB1.out
  have hbt : W1.heap[w.heap.size]? = some (.cells #[.int .i64 5, .int .i64 a, .int .i64 b] 66 (0, 0)) := by rw [hW1]; exact heap_alloc_new w _
  have t0 : W1.cell? ⟨w.heap.size, 0, none⟩ = some (.int .i64 5) := cell_at hbt 0
  have t1 : W1.cell? ⟨w.heap.size, 1, none⟩ = some (.int .i64 a) := cell_at hbt 1
  have t2 : W1.cell? ⟨w.heap.size, 2, none⟩ = some (.int .i64 b) := cell_at hbt 2
  have lc : W1.cell? ⟨p, 1, none⟩ = some (.int .i64 K.liar) := by
    obtain ⟨vm, vl, vc, vv, l0, l1, l2, l3, vb, g1⟩ := HK1.out.k.ex
    exact cell_at g1.box 1
  obtain ⟨al, cl, q2, _⟩ := HK1.out.lcells
  have HLI : Hid (Calls Tryd.prog 40 #[.pointer (some ⟨p, 0, none⟩), .agg #[.int .i64 5, .int .i64 a, .int .i64 b]] W1 fun e w' => ∃ go, e = .returned (.bool (K.lies 5 a b go).2) ∧ KGoes W1 w' p A ps (K.lies 5 a b go).1) := klies5 W1 p A ps K HK1.out n ok hn a b a0 a1 b0 b1 hl0 hl3 hcr hc1
  have hll : (K.letters.length : Int) ≤ 1600000000 := by have := ok.len.lt; omega
  clear h ok hcr hbt
  have HY : Hid (∀ go, K.letters.length < 3000 → K.happens 5 a b go = K.lies 5 a b go) := fun go hl => by
    unfold Clu.happens
    rw [if_neg (by decide), if_neg (by decide), if_neg (by decide), if_pos (by decide), if_pos hl]
  have HN : Hid (∀ go, ¬ K.letters.length < 3000 → K.happens 5 a b go = (K, true)) := fun go hl => by
    unfold Clu.happens
    rw [if_neg (by decide), if_neg (by decide), if_neg (by decide), if_pos (by decide), if_neg hl]
  go_enter Tryd.func22, Tryd.ntmps22
  go_upto_region 1 with fail
  rw [← hW1]
  clear hW1
  by_cases h3 : K.letters.length < 3000
  · have h3i : (K.letters.length : Int) < 3000 := by omega
    go_wp2_with (first | (go_at_call 13; refine (HPI.out _).mono ?_; rintro e w1 ⟨rfl, rfl⟩) | (go_at_call 40; refine HLI.out.mono ?_; rintro e w3 ⟨go, rfl, hg⟩; have HG : Hid (KGoes W1 w3 p A ps (K.lies 5 a b go).1) := hg; clear hg))
    go_ret
    refine ⟨go, ?_, ?_⟩
    · rw [HY.out go h3]; rfl
    · rw [HY.out go h3]; exact kgoes_below HB1.out HG.out
  · have h3i : ¬ (K.letters.length : Int) < 3000 := by omega
    go_wp2_with (go_at_call 13; refine (HPI.out _).mono ?_; rintro e w1 ⟨rfl, rfl⟩)
    go_ret
    refine ⟨fun _ => true, ?_, ?_⟩
    · rw [HN.out _ h3]; rfl
    · rw [HN.out _ h3]; exact ⟨⟨A, HK1.out, Grow.refl _ _⟩, Fr.of_below HB1.out⟩
set_option maxRecDepth 100000 in
set_option maxHeartbeats 4000000 in
theorem khappens6 (w : World) (p : Nat) (A : Nat → Nat → Prop) (ps : List (Option Nat)) (K : Clu) (h : KSit w p A ps K) (n : Nat) (ok : KOk K n) (hn : n ≤ 1400000000) (a b : Int) (a0 : -9223372036854775808 ≤ a) (a1 : a ≤ 9223372036854775807) (b0 : -9223372036854775808 ≤ b) (b1 : b ≤ 9223372036854775807) (hl0 : 0 ≤ K.liar) (hl3 : K.liar ≤ 3) (hcr : ∀ c ∈ K.certs, c.Ok ∧ 0 ≤ c.view ∧ c.view ≤ 1000) (hc1 : 1 ≤ K.certs.length) :
    Calls Tryd.prog 22 #[.pointer (some ⟨p, 0, none⟩), .agg #[.int .i64 6, .int .i64 a, .int .i64 b]] w fun e w' => ∃ go, e = .returned (.bool (K.happens 6 a b go).2) ∧ KGoes w w' p A ps (K.happens 6 a b go).1 := by
  have HPI : Hid (∀ W, Calls Tryd.prog 13 #[.int .i64 a, .int .i64 4] W fun e w' => e = .returned (.int .i64 (pickN a 4)) ∧ W = w') := fun W => (kpick a 4 a0 a1 (by decide) (by decide) W).mono (fun _ _ h => ⟨h.1, h.2.symm⟩)
  obtain ⟨W1, hW1⟩ : ∃ W, W = w.alloc (.cells #[.int .i64 6, .int .i64 a, .int .i64 b] 66) := ⟨_, rfl⟩
  have HB1 : Hid (Below w.heap.size w W1) := by rw [hW1]; exact below_alloc _ _
  have HK1 : Hid (KSit W1 p A ps K) := h.below HB1.out
  have hbt : W1.heap[w.heap.size]? = some (.cells #[.int .i64 6, .int .i64 a, .int .i64 b] 66 (0, 0)) := by rw [hW1]; exact heap_alloc_new w _
  have t0 : W1.cell? ⟨w.heap.size, 0, none⟩ = some (.int .i64 6) := cell_at hbt 0
  have t1 : W1.cell? ⟨w.heap.size, 1, none⟩ = some (.int .i64 a) := cell_at hbt 1
  have t2 : W1.cell? ⟨w.heap.size, 2, none⟩ = some (.int .i64 b) := cell_at hbt 2
  have lc : W1.cell? ⟨p, 1, none⟩ = some (.int .i64 K.liar) := by
    obtain ⟨vm, vl, vc, vv, l0, l1, l2, l3, vb, g1⟩ := HK1.out.k.ex
    exact cell_at g1.box 1
  obtain ⟨al, cl, q2, _⟩ := HK1.out.lcells
  have HLI : Hid (Calls Tryd.prog 40 #[.pointer (some ⟨p, 0, none⟩), .agg #[.int .i64 6, .int .i64 a, .int .i64 b]] W1 fun e w' => ∃ go, e = .returned (.bool (K.lies 6 a b go).2) ∧ KGoes W1 w' p A ps (K.lies 6 a b go).1) := klies6 W1 p A ps K HK1.out n ok hn a b a0 a1 b0 b1 hl0 hl3 hcr hc1
  have hll : (K.letters.length : Int) ≤ 1600000000 := by have := ok.len.lt; omega
  clear h ok hcr hbt
  have HY : Hid (∀ go, K.letters.length < 3000 → K.happens 6 a b go = K.lies 6 a b go) := fun go hl => by
    unfold Clu.happens
    rw [if_neg (by decide), if_neg (by decide), if_neg (by decide), if_pos (by decide), if_pos hl]
  have HN : Hid (∀ go, ¬ K.letters.length < 3000 → K.happens 6 a b go = (K, true)) := fun go hl => by
    unfold Clu.happens
    rw [if_neg (by decide), if_neg (by decide), if_neg (by decide), if_pos (by decide), if_neg hl]
  go_enter Tryd.func22, Tryd.ntmps22
  go_upto_region 1 with fail
  rw [← hW1]
  clear hW1
  by_cases h3 : K.letters.length < 3000
  · have h3i : (K.letters.length : Int) < 3000 := by omega
    go_wp2_with (first | (go_at_call 13; refine (HPI.out _).mono ?_; rintro e w1 ⟨rfl, rfl⟩) | (go_at_call 40; refine HLI.out.mono ?_; rintro e w3 ⟨go, rfl, hg⟩; have HG : Hid (KGoes W1 w3 p A ps (K.lies 6 a b go).1) := hg; clear hg))
    go_ret
    refine ⟨go, ?_, ?_⟩
    · rw [HY.out go h3]; rfl
    · rw [HY.out go h3]; exact kgoes_below HB1.out HG.out
  · have h3i : ¬ (K.letters.length : Int) < 3000 := by omega
    go_wp2_with (go_at_call 13; refine (HPI.out _).mono ?_; rintro e w1 ⟨rfl, rfl⟩)
    go_ret
    refine ⟨fun _ => true, ?_, ?_⟩
    · rw [HN.out _ h3]; rfl
    · rw [HN.out _ h3]; exact ⟨⟨A, HK1.out, Grow.refl _ _⟩, Fr.of_below HB1.out⟩
set_option maxRecDepth 100000 in
set_option maxHeartbeats 4000000 in
theorem khappens3 (w : World) (p : Nat) (A : Nat → Nat → Prop) (ps : List (Option Nat)) (K : Clu) (h : KSit w p A ps K) (n : Nat) (ok : KOk K n) (a b : Int) (a0 : -9223372036854775808 ≤ a) (a1 : a ≤ 9223372036854775807) (nn : Nat) (hcn : K.count = (nn : Int)) (hnn : nn ≤ 20000000000001) :
    Calls Tryd.prog 22 #[.pointer (some ⟨p, 0, none⟩), .agg #[.int .i64 3, .int .i64 a, .int .i64 b]] w fun e w' => ∃ go, e = .returned (.bool (K.happens 3 a b go).2) ∧ KGoes w w' p A ps (K.happens 3 a b go).1 := by
  have HPI : Hid (∀ W, Calls Tryd.prog 13 #[.int .i64 a, .int .i64 4] W fun e w' => e = .returned (.int .i64 (pickN a 4)) ∧ W = w') := fun W => (kpick a 4 a0 a1 (by decide) (by decide) W).mono (fun _ _ h => ⟨h.1, h.2.symm⟩)
  have HR0 : Hid (K.happens 3 a b (fun _ => true) = K.gives (pickN a 4)) := by
    show _ = _
    unfold Clu.happens
    rw [if_neg (by decide), if_neg (by decide), if_pos rfl]
  have hk := pickN_lt a 4 (by decide)
  generalize pickN a 4 = k at hk HPI HR0
  obtain ⟨W1, hW1⟩ : ∃ W, W = w.alloc (.cells #[.int .i64 3, .int .i64 a, .int .i64 b] 66) := ⟨_, rfl⟩
  have HB1 : Hid (Below w.heap.size w W1) := by rw [hW1]; exact below_alloc _ _
  have HK1 : Hid (KSit W1 p A ps K) := h.below HB1.out
  have hbt : W1.heap[w.heap.size]? = some (.cells #[.int .i64 3, .int .i64 a, .int .i64 b] 66 (0, 0)) := by rw [hW1]; exact heap_alloc_new w _
  have t0 : W1.cell? ⟨w.heap.size, 0, none⟩ = some (.int .i64 3) := cell_at hbt 0
  have t1 : W1.cell? ⟨w.heap.size, 1, none⟩ = some (.int .i64 a) := cell_at hbt 1
  obtain ⟨g, off, cm, hgA, hc0, hci⟩ := HK1.out.cells
  have hck := hci k hk
  have hk0 : (0 : Int) ≤ (k : Int) := by omega
  have hk1 : (k : Int) < 4 := by omega
  cases hm : K.memAt k with
  | none =>
    have hq := HK1.out.nil hk hm
    rw [hq] at hck
    have HR : Hid (K.gives k = (K, true)) := by show _ = _; unfold Clu.gives; rw [hm]
    dsimp only [mptr, Option.map] at hck
    clear h hm hq ok hci hgA hbt hcn
    go_enter Tryd.func22, Tryd.ntmps22
    go_upto_region 1 with fail
    rw [← hW1]
    clear hW1
    go_wp2_with (go_at_call 13; refine (HPI.out _).mono ?_; rintro e w1 ⟨rfl, rfl⟩)
    go_ret
    refine ⟨fun _ => true, ?_, ?_⟩
    · rw [HR0.out, HR.out]; rfl
    · rw [HR0.out, HR.out]; exact ⟨⟨A, HK1.out, Grow.refl _ _⟩, Fr.of_below HB1.out⟩
  | some m =>
    obtain ⟨pm, hq, hpm⟩ := HK1.out.some1 hk hm
    rw [hq] at hck
    dsimp only [mptr, Option.map] at hck
    have hmo := ok.at' hm
    have HPQ : Hid (ps.getD k none = some pm) := hq
    have HR : Hid (K.gives k = (({ K with count := ((nn + 1 : Nat) : Int) } : Clu).setMem k (m.submit (cmdText (nn + 1))).1, (m.submit (cmdText (nn + 1))).2 == 0 || (m.submit (cmdText (nn + 1))).2 == 6)) := by
      show _ = _
      unfold Clu.gives
      rw [hm]
      have e1 : K.count + 1 = ((nn + 1 : Nat) : Int) := by rw [hcn]; rfl
      have e2 : K.count.toNat = nn := by rw [hcn]; rfl
      rw [e1, e2]
    have HCM : Hid (Calls Tryd.prog 20 #[.pointer (some ⟨p, 0, none⟩)] W1 fun e w' => e = .returned (.string (cmdText (nn + 1))) ∧ KMem w' p (A 0) ps { K with count := ((nn + 1 : Nat) : Int) } ∧ Fr (A 0) W1 w') := kcommand W1 p (A 0) ps K HK1.out.k nn hcn (by omega)
    have hcs : (cmdText (nn + 1)).size ≤ 16 := cmd_size (nn + 1) (by omega)
    have HMO : Hid (MOk m n) := hmo
    have HKOL : Hid (K.mem.length = 4) := ok.ml
    clear h hm hq ok hci hbt hcn
    go_enter Tryd.func22, Tryd.ntmps22
    go_upto_region 1 with fail
    rw [← hW1]
    clear hW1
    go_upto_region 18 with (first | (go_at_call 13; refine (HPI.out _).mono ?_; rintro e w1 ⟨rfl, rfl⟩) | (go_at_call 20; refine HCM.out.mono ?_; rintro e w2 ⟨rfl, hm2, hf2⟩; have HM2 : Hid (KMem w2 p (A 0) ps { K with count := ((nn + 1 : Nat) : Int) } ∧ Fr (A 0) W1 w2) := ⟨hm2, hf2⟩; clear hm2 hf2))
    have HS2 : Hid (KSit w2 p (updA A 0 (A 0)) ps { K with count := ((nn + 1 : Nat) : Int) }) := HK1.out.clu HM2.out.1 rfl (Grow.refl _ _) HM2.out.2
    obtain ⟨g2, off2, cm2, _, hd0, hdi⟩ := HS2.out.cells
    have hdk := hdi k hk
    rw [HPQ.out] at hdk
    dsimp only [mptr, Option.map] at hdk
    have hpm2 : PMem w2 pm (updA A 0 (A 0) (k + 1)) m := by
      rw [updA_ne A _ (by omega : k + 1 ≠ 0)]
      exact hpm.fr HM2.out.2 (fun b h1 h2 => absurd (HK1.out.dis (k + 1) 0 b (by omega) (by omega) h1 h2) (by omega)) (HK1.out.z 0 (by omega))
    have HSU : Hid (Calls Tryd.prog 21 #[.pointer (some ⟨pm, 0, none⟩), .string (cmdText (nn + 1))] w2 fun e w' => e = .returned (.int .i64 (m.submit (cmdText (nn + 1))).2) ∧ ∃ S', PMem w' pm S' (m.submit (cmdText (nn + 1))).1 ∧ Grow (updA A 0 (A 0) (k + 1)) w2 S' ∧ Fr (updA A 0 (A 0) (k + 1)) w2 w') := psubmit w2 pm _ m hpm2 _ (by omega) HMO.out.iv.ql
    have HGW : Hid (Grow (UA A) w (UA (updA A 0 (A 0))) ∧ Fr (UA A) w w2) := ⟨(Grow.refl (UA A) w).trans HB1.out.size (grow_u (i := 0) (Grow.refl (A 0) W1)), (Fr.of_below HB1.out).trans (fr_u (i := 0) (by omega) HM2.out.2) (fun _ h => .inl h)⟩
    have HRS : Hid ((m.submit (cmdText (nn + 1))).2 = 0 ∨ (m.submit (cmdText (nn + 1))).2 = 6) := by
      show _ ∨ _
      unfold Mem.submit
      rw [if_neg (by omega)]
      split
      · exact .inr rfl
      · exact .inl rfl
    generalize m.submit (cmdText (nn + 1)) = R at HR HSU HRS
    obtain ⟨m', er⟩ := R
    dsimp only at HR HSU HRS
    clear hc0 hck t0 t1 hdi hpm hpm2 HCM
    rcases HRS.out with rfl | rfl
    all_goals (
      go_wp2_with (go_at_call 21; refine HSU.out.mono ?_; rintro e w3 ⟨rfl, S3, hm3, hg3, hf3⟩; have HM3 : Hid (PMem w3 pm S3 m' ∧ Grow (updA A 0 (A 0) (k + 1)) w2 S3 ∧ Fr (updA A 0 (A 0) (k + 1)) w2 w3) := ⟨hm3, hg3, hf3⟩; clear hm3 hg3 hf3)
      go_ret
      refine ⟨fun _ => true, ?_, ?_⟩
      · rw [HR0.out, HR.out]; rfl
      · rw [HR0.out, HR.out]
        have hk3 := HS2.out.turn (by exact HKOL.out) hk HPQ.out HM3.out.1 HM3.out.2.1 HM3.out.2.2
        exact ⟨⟨_, hk3, HGW.out.1.trans HGW.out.2.size (grow_u (i := k + 1) HM3.out.2.1)⟩, HGW.out.2.grow HGW.out.1 (fr_u (i := k + 1) (by omega) HM3.out.2.2)⟩)
end Go.Proofs.YtkehpnobidendaaDoor

namespace Go.Proofs.YtkehpnobidendaaDoor
open Go.RowKit
attribute [local go_sem ↓] ld_ltr put_ltr pload_msg
noncomputable def khpR13 : Code := ((Tryd.f22.body.bind (regOf 13))).getD .skip
set_option maxRecDepth 1000000 in
set_option maxHeartbeats 8000000 in
theorem khp_r13 {y1 y2 y4 y5 y6 y7 y8 y9 y10 y11 y12 y13 y14 y15 y16 y17 y18 y19 y20 y21 y22 y23 y24 y25 y26 y27 y28 y29 y30 y31 y32 y33 y34 y35 y36 y37 y38 y39 y40 y41 y42 y43 y44 y45 y46 y47 y48 y49 y50 y51 y52 y53 y54 y55 y56 y57 y58 y59 y60 y61 y62 y63 y64 y65 y66 y67 y68 y69 y70 y71 y72 y73 y74 y75 y76 y77 y78 y79 y80 y81 y82 y83 y84 y85 y86 y87 y88 y89 y90 y91 y92 y93 y94 y95 y96 y97 y98 y99 y100 y101 y102 y103 y104 y105 y106 y107 y108 y109 y110 y111 y112 y113 y114 y115 y116 y117 y118 y119 y120 y121 y122 y123 y124 y125 y126 y127 y128 : Value} {sa : Int} {l0 xk xf xv bv jv j0 j1 j2 j3 cv k0 k1 k2 k3 sl : Int} {jb nu cb : Nat} {bc : ByteArray} {p Bt pk nl g off cl i : Nat} {wr : World} {Q : Exit → Act → World → Prop}
    (HPK : Hid (∀ W, Calls Tryd.prog 13 #[.int .i64 sa, .int .i64 nl] W fun e w' => e = .returned (.int .i64 (pk : Int)) ∧ W = w')) (hw1 : IntKind.i64.wrap ((nl : Int) - 1) = (nl : Int) - 1) (hw2 : IntKind.i64.wrap ((nl : Int) - 1 - (pk : Int)) = (i : Int)) (hi0 : (0 : Int) ≤ (i : Int)) (hi1 : (i : Int) < (nl : Int))
    (HS : Hid (∀ W, Below wr.heap.size wr W → Below wr.heap.size wr W ∧ W.cell? ⟨p, 2, none⟩ = some (.slice (some ⟨g, off, none⟩) nl cl) ∧ W.cell? ⟨Bt, 1, none⟩ = some (.int .i64 sa) ∧ (rowVar 42 ⟨g, off + i * 20, none⟩).run Tryd.prog W = .ok (.agg #[.int .i64 l0, .int .i64 xk, .int .i64 xf, .int .i64 xv, .int .i64 bv, .int .i64 jv, .int .u64 jb, .int .u64 j0, .int .u64 j1, .int .u64 j2, .int .u64 j3, .string bc, .int .u64 nu, .int .i64 cv, .int .u64 cb, .int .u64 k0, .int .u64 k1, .int .u64 k2, .int .u64 k3, .int .u64 sl]) W))
    (hpu : (rowPut 42 ⟨wr.heap.size, 0, none⟩ (.agg #[.int .i64 l0, .int .i64 xk, .int .i64 xf, .int .i64 xv, .int .i64 bv, .int .i64 jv, .int .u64 jb, .int .u64 j0, .int .u64 j1, .int .u64 j2, .int .u64 j3, .string bc, .int .u64 nu, .int .i64 cv, .int .u64 cb, .int .u64 k0, .int .u64 k1, .int .u64 k2, .int .u64 k3, .int .u64 sl])).run Tryd.prog (wr.alloc (.cells #[.int .i64 0, .int .i64 0, .int .i64 0, .int .i64 0, .int .i64 0, .int .i64 0, .int .u64 0, .int .u64 0, .int .u64 0, .int .u64 0, .int .u64 0, .string ⟨#[]⟩, .int .u64 0, .int .i64 0, .int .u64 0, .int .u64 0, .int .u64 0, .int .u64 0, .int .u64 0, .int .u64 0] 42)).drew = .ok () (wr.alloc (.cells #[.int .i64 l0, .int .i64 xk, .int .i64 xf, .int .i64 xv, .int .i64 bv, .int .i64 jv, .int .u64 jb, .int .u64 j0, .int .u64 j1, .int .u64 j2, .int .u64 j3, .string bc, .int .u64 nu, .int .i64 cv, .int .u64 cb, .int .u64 k0, .int .u64 k1, .int .u64 k2, .int .u64 k3, .int .u64 sl] 42)).drew)
    (HEX : Hid (∀ {v54 v55 v56 v57 v58 v59 v60 v61 v62 v63 v64 v65 v66 v67 v68 v69 v70 v71 v72 v73 v74 : Value}, Q .normal ⟨List.toArray (.pointer (some ⟨p, 0, none⟩) :: y1 :: y2 :: .pointer (some ⟨Bt, 0, none⟩) :: y4 :: y5 :: y6 :: y7 :: y8 :: .pointer (some ⟨wr.heap.size, 0, none⟩) :: y10 :: y11 :: y12 :: y13 :: y14 :: y15 :: y16 :: y17 :: y18 :: y19 :: y20 :: y21 :: y22 :: y23 :: y24 :: y25 :: y26 :: y27 :: y28 :: y29 :: y30 :: y31 :: y32 :: y33 :: y34 :: y35 :: y36 :: y37 :: y38 :: y39 :: y40 :: y41 :: y42 :: y43 :: y44 :: y45 :: y46 :: y47 :: y48 :: y49 :: y50 :: y51 :: y52 :: y53 :: v54 :: v55 :: v56 :: v57 :: v58 :: v59 :: v60 :: v61 :: v62 :: v63 :: v64 :: v65 :: v66 :: v67 :: v68 :: v69 :: v70 :: v71 :: v72 :: v73 :: v74 :: y75 :: y76 :: y77 :: y78 :: y79 :: y80 :: y81 :: y82 :: y83 :: y84 :: y85 :: y86 :: y87 :: y88 :: y89 :: y90 :: y91 :: y92 :: y93 :: y94 :: y95 :: y96 :: y97 :: y98 :: y99 :: y100 :: y101 :: y102 :: y103 :: y104 :: y105 :: y106 :: y107 :: y108 :: y109 :: y110 :: y111 :: y112 :: y113 :: y114 :: y115 :: y116 :: y117 :: y118 :: y119 :: y120 :: y121 :: y122 :: y123 :: y124 :: y125 :: y126 :: y127 :: y128 :: []), []⟩ (wr.alloc (.cells #[.int .i64 l0, .int .i64 xk, .int .i64 xf, .int .i64 xv, .int .i64 bv, .int .i64 jv, .int .u64 jb, .int .u64 j0, .int .u64 j1, .int .u64 j2, .int .u64 j3, .string bc, .int .u64 nu, .int .i64 cv, .int .u64 cb, .int .u64 k0, .int .u64 k1, .int .u64 k2, .int .u64 k3, .int .u64 sl] 42)).drew)) :
    Code.wp Tryd.prog khpR13 Q ⟨List.toArray (.pointer (some ⟨p, 0, none⟩) :: y1 :: y2 :: .pointer (some ⟨Bt, 0, none⟩) :: y4 :: y5 :: y6 :: y7 :: y8 :: y9 :: y10 :: y11 :: y12 :: y13 :: y14 :: y15 :: y16 :: y17 :: y18 :: y19 :: y20 :: y21 :: y22 :: y23 :: y24 :: y25 :: y26 :: y27 :: y28 :: y29 :: y30 :: y31 :: y32 :: y33 :: y34 :: y35 :: y36 :: y37 :: y38 :: y39 :: y40 :: y41 :: y42 :: y43 :: y44 :: y45 :: y46 :: y47 :: y48 :: y49 :: y50 :: y51 :: y52 :: y53 :: y54 :: y55 :: y56 :: y57 :: y58 :: y59 :: y60 :: y61 :: y62 :: y63 :: y64 :: y65 :: y66 :: y67 :: y68 :: y69 :: y70 :: y71 :: y72 :: y73 :: y74 :: y75 :: y76 :: y77 :: y78 :: y79 :: y80 :: y81 :: y82 :: y83 :: y84 :: y85 :: y86 :: y87 :: y88 :: y89 :: y90 :: y91 :: y92 :: y93 :: y94 :: y95 :: y96 :: y97 :: y98 :: y99 :: y100 :: y101 :: y102 :: y103 :: y104 :: y105 :: y106 :: y107 :: y108 :: y109 :: y110 :: y111 :: y112 :: y113 :: y114 :: y115 :: y116 :: y117 :: y118 :: y119 :: y120 :: y121 :: y122 :: y123 :: y124 :: y125 :: y126 :: y127 :: y128 :: []), []⟩ wr := by
  refine wp_mono (Q := Exit.then (Q .normal) (fun _ _ _ => False)) ?_ (fun e a w h => by cases e <;> first | exact h | exact h.elim)
  conv => arg 2; whnf
  go_region_held3 (fun w' => Below wr.heap.size wr w' ∧ w'.cell? ⟨p, 2, none⟩ = some (.slice (some ⟨g, off, none⟩) nl cl) ∧ w'.cell? ⟨Bt, 1, none⟩ = some (.int .i64 sa) ∧ (rowVar 42 ⟨g, off + i * 20, none⟩).run Tryd.prog w' = .ok (.agg #[.int .i64 l0, .int .i64 xk, .int .i64 xf, .int .i64 xv, .int .i64 bv, .int .i64 jv, .int .u64 jb, .int .u64 j0, .int .u64 j1, .int .u64 j2, .int .u64 j3, .string bc, .int .u64 nu, .int .i64 cv, .int .u64 cb, .int .u64 k0, .int .u64 k1, .int .u64 k2, .int .u64 k3, .int .u64 sl]) w')
    (first | (exact HS.out _ (Below.refl _ _).drew) | (exact HS.out _ (bnext (And.left ‹Below wr.heap.size wr _ ∧ _›) (below_alloc _ _))) | (exact HS.out _ (bnext (Below.refl _ _).drew (below_alloc _ _))))
    ((go_at_call 13; refine (HPK.out _).mono ?_; rintro e w9 ⟨rfl, rfl⟩))
  all_goals exact HEX.out
noncomputable def khpR14 : Code := ((Tryd.f22.body.bind (regOf 14))).getD .skip
set_option maxRecDepth 1000000 in
set_option maxHeartbeats 8000000 in
theorem khp_r14 {y1 y2 y4 y5 y6 y7 y8 y10 y11 y12 y13 y14 y15 y16 y17 y18 y19 y20 y21 y22 y23 y24 y25 y26 y27 y28 y29 y30 y31 y32 y33 y34 y35 y36 y37 y38 y39 y40 y41 y42 y43 y44 y45 y46 y47 y48 y49 y50 y51 y52 y53 y54 y55 y56 y57 y58 y59 y60 y61 y62 y63 y64 y65 y66 y67 y68 y69 y70 y71 y72 y73 y74 y75 y76 y77 y78 y79 y80 y81 y82 y83 y84 y85 y86 y87 y88 y89 y90 y91 y92 y93 y94 y95 y96 y97 y98 y99 y100 y101 y102 y103 y104 y105 y106 y107 y108 y109 y110 y111 y112 y113 y114 y115 y116 y117 y118 y119 y120 y121 y122 y123 y124 y125 y126 y127 y128 : Value} {sb : Int} {xk xf xv bv jv j0 j1 j2 j3 cv k0 k1 k2 k3 sl : Int} {jb nu cb : Nat} {bc : ByteArray} {p Bt Bl pk : Nat} {bo : Bool} {P : World → Prop} {X : World} {Q : Exit → Act → World → Prop}
    (HPK : Hid (∀ W, Calls Tryd.prog 13 #[.int .i64 sb, .int .i64 4] W fun e w' => e = .returned (.int .i64 (pk : Int)) ∧ W = w')) (t2 : X.cell? ⟨Bt, 2, none⟩ = some (.int .i64 sb))
    (hlw : (rowVar 40 ⟨Bl, 1, none⟩).run Tryd.prog X.drew = .ok (.agg #[.int .i64 xk, .int .i64 xf, .int .i64 xv, .int .i64 bv, .int .i64 jv, .int .u64 jb, .int .u64 j0, .int .u64 j1, .int .u64 j2, .int .u64 j3, .string bc, .int .u64 nu, .int .i64 cv, .int .u64 cb, .int .u64 k0, .int .u64 k1, .int .u64 k2, .int .u64 k3, .int .u64 sl]) X.drew)
    (HCO : Hid (Calls Tryd.prog 39 #[.pointer (some ⟨p, 0, none⟩), .int .i64 pk, .agg #[.int .i64 xk, .int .i64 xf, .int .i64 xv, .int .i64 bv, .int .i64 jv, .int .u64 jb, .int .u64 j0, .int .u64 j1, .int .u64 j2, .int .u64 j3, .string bc, .int .u64 nu, .int .i64 cv, .int .u64 cb, .int .u64 k0, .int .u64 k1, .int .u64 k2, .int .u64 k3, .int .u64 sl]] X.drew fun e w' => e = .returned (.bool bo) ∧ P w'))
    (HEX : Hid (∀ {v75 v76 v77 v78 v79 v80 v81 : Value} {w' : World}, P w' → Q .normal ⟨List.toArray (.pointer (some ⟨p, 0, none⟩) :: y1 :: y2 :: .pointer (some ⟨Bt, 0, none⟩) :: .bool bo :: y5 :: y6 :: y7 :: y8 :: .pointer (some ⟨Bl, 0, none⟩) :: y10 :: y11 :: y12 :: y13 :: y14 :: y15 :: y16 :: y17 :: y18 :: y19 :: y20 :: y21 :: y22 :: y23 :: y24 :: y25 :: y26 :: y27 :: y28 :: y29 :: y30 :: y31 :: y32 :: y33 :: y34 :: y35 :: y36 :: y37 :: y38 :: y39 :: y40 :: y41 :: y42 :: y43 :: y44 :: y45 :: y46 :: y47 :: y48 :: y49 :: y50 :: y51 :: y52 :: y53 :: y54 :: y55 :: y56 :: y57 :: y58 :: y59 :: y60 :: y61 :: y62 :: y63 :: y64 :: y65 :: y66 :: y67 :: y68 :: y69 :: y70 :: y71 :: y72 :: y73 :: y74 :: v75 :: v76 :: v77 :: v78 :: v79 :: v80 :: v81 :: y82 :: y83 :: y84 :: y85 :: y86 :: y87 :: y88 :: y89 :: y90 :: y91 :: y92 :: y93 :: y94 :: y95 :: y96 :: y97 :: y98 :: y99 :: y100 :: y101 :: y102 :: y103 :: y104 :: y105 :: y106 :: y107 :: y108 :: y109 :: y110 :: y111 :: y112 :: y113 :: y114 :: y115 :: y116 :: y117 :: y118 :: y119 :: y120 :: y121 :: y122 :: y123 :: y124 :: y125 :: y126 :: y127 :: y128 :: []), []⟩ w')) :
    Code.wp Tryd.prog khpR14 Q ⟨List.toArray (.pointer (some ⟨p, 0, none⟩) :: y1 :: y2 :: .pointer (some ⟨Bt, 0, none⟩) :: y4 :: y5 :: y6 :: y7 :: y8 :: .pointer (some ⟨Bl, 0, none⟩) :: y10 :: y11 :: y12 :: y13 :: y14 :: y15 :: y16 :: y17 :: y18 :: y19 :: y20 :: y21 :: y22 :: y23 :: y24 :: y25 :: y26 :: y27 :: y28 :: y29 :: y30 :: y31 :: y32 :: y33 :: y34 :: y35 :: y36 :: y37 :: y38 :: y39 :: y40 :: y41 :: y42 :: y43 :: y44 :: y45 :: y46 :: y47 :: y48 :: y49 :: y50 :: y51 :: y52 :: y53 :: y54 :: y55 :: y56 :: y57 :: y58 :: y59 :: y60 :: y61 :: y62 :: y63 :: y64 :: y65 :: y66 :: y67 :: y68 :: y69 :: y70 :: y71 :: y72 :: y73 :: y74 :: y75 :: y76 :: y77 :: y78 :: y79 :: y80 :: y81 :: y82 :: y83 :: y84 :: y85 :: y86 :: y87 :: y88 :: y89 :: y90 :: y91 :: y92 :: y93 :: y94 :: y95 :: y96 :: y97 :: y98 :: y99 :: y100 :: y101 :: y102 :: y103 :: y104 :: y105 :: y106 :: y107 :: y108 :: y109 :: y110 :: y111 :: y112 :: y113 :: y114 :: y115 :: y116 :: y117 :: y118 :: y119 :: y120 :: y121 :: y122 :: y123 :: y124 :: y125 :: y126 :: y127 :: y128 :: []), []⟩ X := by
  refine wp_mono (Q := Exit.then (Q .normal) (fun _ _ _ => False)) ?_ (fun e a w h => by cases e <;> first | exact h | exact h.elim)
  conv => arg 2; whnf
  go_region_with (first | (go_at_call 13; refine (HPK.out _).mono ?_; rintro e w9 ⟨rfl, rfl⟩) | (go_at_call 39; refine HCO.out.mono ?_; rintro e w5 ⟨rfl, hp5⟩; have HP5 : Hid (P w5) := hp5; clear hp5))
  all_goals exact HEX.out HP5.out
set_option maxRecDepth 1000000 in
set_option maxHeartbeats 8000000 in
theorem khappens2 (w : World) (p : Nat) (A : Nat → Nat → Prop) (ps : List (Option Nat)) (K : Clu) (h : KSit w p A ps K) (n : Nat) (ok : KOk K n) (hn : n ≤ 1400000000) (a b : Int) (a0 : -9223372036854775808 ≤ a) (a1 : a ≤ 9223372036854775807) (b0 : -9223372036854775808 ≤ b) (b1 : b ≤ 9223372036854775807) :
    Calls Tryd.prog 22 #[.pointer (some ⟨p, 0, none⟩), .agg #[.int .i64 2, .int .i64 a, .int .i64 b]] w fun e w' => ∃ go, e = .returned (.bool (K.happens 2 a b go).2) ∧ KGoes w w' p A ps (K.happens 2 a b go).1 := by
  have HPI : Hid (∀ W, Calls Tryd.prog 13 #[.int .i64 a, .int .i64 4] W fun e w' => e = .returned (.int .i64 (pickN a 4)) ∧ W = w') := fun W => (kpick a 4 a0 a1 (by decide) (by decide) W).mono (fun _ _ h => ⟨h.1, h.2.symm⟩)
  have HPB : Hid (∀ W, Calls Tryd.prog 13 #[.int .i64 b, .int .i64 4] W fun e w' => e = .returned (.int .i64 (pickN b 4 : Nat)) ∧ W = w') := fun W => (kpick b 4 b0 b1 (by decide) (by decide) W).mono (fun _ _ h => ⟨h.1, h.2.symm⟩)
  have hpb := pickN_lt b 4 (by decide)
  obtain ⟨W1, hW1⟩ : ∃ W, W = w.alloc (.cells #[.int .i64 2, .int .i64 a, .int .i64 b] 66) := ⟨_, rfl⟩
  have HB1 : Hid (Below w.heap.size w W1) := by rw [hW1]; exact below_alloc _ _
  have HK1 : Hid (KSit W1 p A ps K) := h.below HB1.out
  have hbt : W1.heap[w.heap.size]? = some (.cells #[.int .i64 2, .int .i64 a, .int .i64 b] 66 (0, 0)) := by rw [hW1]; exact heap_alloc_new w _
  have HBT : Hid (W1.heap[w.heap.size]? = some (.cells #[.int .i64 2, .int .i64 a, .int .i64 b] 66 (0, 0))) := hbt
  have t0 : W1.cell? ⟨w.heap.size, 0, none⟩ = some (.int .i64 2) := cell_at hbt 0
  have t1 : W1.cell? ⟨w.heap.size, 1, none⟩ = some (.int .i64 a) := cell_at hbt 1
  obtain ⟨al, cl, q2, hrow⟩ := HK1.out.lcells
  have HO : Hid (KOk K n) := ok
  have hll : K.letters.length ≤ 1600000000 := by have := ok.len.lt; omega
  clear h ok hbt
  by_cases hz : K.letters.length = 0
  · have hzb : ((K.letters.length : Int) == 0) = true := by rw [hz]; rfl
    have HR : Hid (K.happens 2 a b (fun _ => true) = (K, true)) := by
      show _ = _
      unfold Clu.happens
      rw [if_neg (by decide), if_pos rfl, if_pos hz]
    go_enter Tryd.func22, Tryd.ntmps22
    go_upto_region 1 with fail
    rw [← hW1]
    clear hW1
    go_wp2_with (go_at_call 13; refine (HPI.out _).mono ?_; rintro e w1 ⟨rfl, rfl⟩)
    go_ret
    refine ⟨fun _ => true, ?_, ?_⟩
    · rw [HR.out]; rfl
    · rw [HR.out]; exact ⟨⟨A, HK1.out, Grow.refl _ _⟩, Fr.of_below HB1.out⟩
  have hzb : ((K.letters.length : Int) == 0) = false := beq_eq_false_iff_ne.2 (by omega)
  obtain ⟨g, off, rfl, hSg, hg, hcap⟩ := hrow.place (by omega)
  have hpl := pickN_lt a K.letters.length (by omega)
  have HPK2 : Hid (∀ W, Calls Tryd.prog 13 #[.int .i64 a, .int .i64 K.letters.length] W fun e w' => e = .returned (.int .i64 (pickN a K.letters.length : Nat)) ∧ W = w') := fun W => (kpick a K.letters.length a0 a1 (by omega) (by omega) W).mono (fun _ _ h => ⟨h.1, h.2.symm⟩)
  have HR : Hid (K.happens 2 a b (fun _ => true) = K.comes (pickN b 4) (K.letters.getD (K.letters.length - 1 - pickN a K.letters.length) ⟨0, Msg.zero⟩).msg) := by
    show _ = _
    unfold Clu.happens
    rw [if_neg (by decide), if_pos rfl, if_neg hz]
  generalize pickN a K.letters.length = pk at hpl HPK2 HR
  obtain ⟨i, hi⟩ : ∃ i, i = K.letters.length - 1 - pk := ⟨_, rfl⟩
  rw [← hi] at HR
  have hil : i < K.letters.length := by omega
  have hw1 : IntKind.i64.wrap ((K.letters.length : Int) - 1) = (K.letters.length : Int) - 1 := by rw [IntKind.wrap_i64]; omega
  have hw2 : IntKind.i64.wrap ((K.letters.length : Int) - 1 - (pk : Int)) = (i : Int) := by rw [IntKind.wrap_i64]; omega
  have hi0 : (0 : Int) ≤ (i : Int) := by omega
  have hi1 : (i : Int) < (K.letters.length : Int) := by omega
  have hget : K.letters.getD i ⟨0, Msg.zero⟩ = K.letters[i] := by rw [List.getD_eq_getElem?_getD, List.getElem?_eq_getElem hil]; rfl
  rw [hget] at HR
  have HLO : Hid (Ltr.Ok K.letters[i]) := HO.out.lt _ (List.getElem_mem hil)
  have hel := hrow.elemAt (show ∀ l : Ltr, l.cells.length = 20 from fun _ => rfl) i hil
  generalize K.letters[i] = l at HLO hel HR
  obtain ⟨l0, ⟨xk, xf, xv, ⟨bv, ⟨jv, jb, j0, j1, j2, j3⟩, bc⟩, nu, ⟨cv, cb, k0, k1, k2, k3⟩, sl⟩⟩ := l
  dsimp only at HR
  have hpW : p < W1.heap.size := HK1.out.k.lt
  have HS20 : Hid (∀ W', Below W1.heap.size W1 W' → Below W1.heap.size W1 W' ∧ W'.cell? ⟨p, 2, none⟩ = some (.slice (some ⟨g, off, none⟩) K.letters.length cl) ∧ W'.cell? ⟨w.heap.size, 1, none⟩ = some (.int .i64 a) ∧ (rowVar 42 ⟨g, off + i * 20, none⟩).run Tryd.prog W' = .ok (.agg #[.int .i64 l0, .int .i64 xk, .int .i64 xf, .int .i64 xv, .int .i64 bv, .int .i64 jv, .int .u64 jb, .int .u64 j0, .int .u64 j1, .int .u64 j2, .int .u64 j3, .string bc, .int .u64 nu, .int .i64 cv, .int .u64 cb, .int .u64 k0, .int .u64 k1, .int .u64 k2, .int .u64 k3, .int .u64 sl]) W') := fun W' hW => by
    refine ⟨hW, (hW.cell (p := ⟨p, 2, none⟩) hpW).trans q2, (hW.cell (p := ⟨w.heap.size, 1, none⟩) (lt_at HBT.out)).trans (cell_at HBT.out 1), ?_⟩
    exact rowVar_mid W' g (off + i * 20) _ (Ltr.cells ⟨l0, ⟨xk, xf, xv, ⟨bv, ⟨jv, jb, j0, j1, j2, j3⟩, bc⟩, nu, ⟨cv, cb, k0, k1, k2, k3⟩, sl⟩⟩) _ (fun j v hv => (hW.cell (p := ⟨g, off + i * 20 + j, none⟩) hg).trans (hel j v hv)) Tryd.underlying42 rfl ltr_size20
  have hpu : (rowPut 42 ⟨W1.heap.size, 0, none⟩ (.agg #[.int .i64 l0, .int .i64 xk, .int .i64 xf, .int .i64 xv, .int .i64 bv, .int .i64 jv, .int .u64 jb, .int .u64 j0, .int .u64 j1, .int .u64 j2, .int .u64 j3, .string bc, .int .u64 nu, .int .i64 cv, .int .u64 cb, .int .u64 k0, .int .u64 k1, .int .u64 k2, .int .u64 k3, .int .u64 sl])).run Tryd.prog (W1.alloc (.cells #[.int .i64 0, .int .i64 0, .int .i64 0, .int .i64 0, .int .i64 0, .int .i64 0, .int .u64 0, .int .u64 0, .int .u64 0, .int .u64 0, .int .u64 0, .string ⟨#[]⟩, .int .u64 0, .int .i64 0, .int .u64 0, .int .u64 0, .int .u64 0, .int .u64 0, .int .u64 0, .int .u64 0] 42)).drew = .ok () (W1.alloc (.cells #[.int .i64 l0, .int .i64 xk, .int .i64 xf, .int .i64 xv, .int .i64 bv, .int .i64 jv, .int .u64 jb, .int .u64 j0, .int .u64 j1, .int .u64 j2, .int .u64 j3, .string bc, .int .u64 nu, .int .i64 cv, .int .u64 cb, .int .u64 k0, .int .u64 k1, .int .u64 k2, .int .u64 k3, .int .u64 sl] 42)).drew := by
    have h1 := rowPut_mid (P := Tryd.prog) (W1.alloc (.cells #[.int .i64 0, .int .i64 0, .int .i64 0, .int .i64 0, .int .i64 0, .int .i64 0, .int .u64 0, .int .u64 0, .int .u64 0, .int .u64 0, .int .u64 0, .string ⟨#[]⟩, .int .u64 0, .int .i64 0, .int .u64 0, .int .u64 0, .int .u64 0, .int .u64 0, .int .u64 0, .int .u64 0] 42)).drew W1.heap.size 0 42 #[.int .i64 l0, .int .i64 xk, .int .i64 xf, .int .i64 xv, .int .i64 bv, .int .i64 jv, .int .u64 jb, .int .u64 j0, .int .u64 j1, .int .u64 j2, .int .u64 j3, .string bc, .int .u64 nu, .int .i64 cv, .int .u64 cb, .int .u64 k0, .int .u64 k1, .int .u64 k2, .int .u64 k3, .int .u64 sl] (LHeld.start0 W1 _ rfl _) ltr_size20 (by simp [Value.oneCell'])
    rw [h1, setCells_drew, setCells_new, fill20]
  clear hel hrow hcap hSg hget hi
  go_enter Tryd.func22, Tryd.ntmps22
  go_upto_region 1 with fail
  rw [← hW1]
  clear hW1
  go_upto_region 13 with (go_at_call 13; refine (HPI.out _).mono ?_; rintro e w1 ⟨rfl, rfl⟩)
  refine khp_r13 HPK2 hw1 hw2 hi0 hi1 HS20 hpu ?_
  intro c54 c55 c56 c57 c58 c59 c60 c61 c62 c63 c64 c65 c66 c67 c68 c69 c70 c71 c72 c73 c74
  simp only [Exit.then]
  obtain ⟨X, hX⟩ : ∃ X, X = (W1.alloc (.cells #[.int .i64 l0, .int .i64 xk, .int .i64 xf, .int .i64 xv, .int .i64 bv, .int .i64 jv, .int .u64 jb, .int .u64 j0, .int .u64 j1, .int .u64 j2, .int .u64 j3, .string bc, .int .u64 nu, .int .i64 cv, .int .u64 cb, .int .u64 k0, .int .u64 k1, .int .u64 k2, .int .u64 k3, .int .u64 sl] 42)).drew := ⟨_, rfl⟩
  rw [← hX]
  have HBX : Hid (Below W1.heap.size W1 X) := by rw [hX]; exact (below_alloc _ _).drew
  have HXL : Hid (X.heap[W1.heap.size]? = some (.cells #[.int .i64 l0, .int .i64 xk, .int .i64 xf, .int .i64 xv, .int .i64 bv, .int .i64 jv, .int .u64 jb, .int .u64 j0, .int .u64 j1, .int .u64 j2, .int .u64 j3, .string bc, .int .u64 nu, .int .i64 cv, .int .u64 cb, .int .u64 k0, .int .u64 k1, .int .u64 k2, .int .u64 k3, .int .u64 sl] 42 (0, 0))) := by rw [hX]; exact heap_alloc_new W1 _
  have t2 : X.cell? ⟨w.heap.size, 2, none⟩ = some (.int .i64 b) := (HBX.out.cell (p := ⟨w.heap.size, 2, none⟩) (lt_at HBT.out)).trans (cell_at HBT.out 2)
  have hlw : (rowVar 40 ⟨W1.heap.size, 1, none⟩).run Tryd.prog X.drew = .ok (.agg #[.int .i64 xk, .int .i64 xf, .int .i64 xv, .int .i64 bv, .int .i64 jv, .int .u64 jb, .int .u64 j0, .int .u64 j1, .int .u64 j2, .int .u64 j3, .string bc, .int .u64 nu, .int .i64 cv, .int .u64 cb, .int .u64 k0, .int .u64 k1, .int .u64 k2, .int .u64 k3, .int .u64 sl]) X.drew := by
    have HXD : X.drew.heap[W1.heap.size]? = some (.cells #[.int .i64 l0, .int .i64 xk, .int .i64 xf, .int .i64 xv, .int .i64 bv, .int .i64 jv, .int .u64 jb, .int .u64 j0, .int .u64 j1, .int .u64 j2, .int .u64 j3, .string bc, .int .u64 nu, .int .i64 cv, .int .u64 cb, .int .u64 k0, .int .u64 k1, .int .u64 k2, .int .u64 k3, .int .u64 sl] 42 (0, 0)) := HXL.out
    refine rowVar_mid X.drew W1.heap.size 1 40 [.int .i64 xk, .int .i64 xf, .int .i64 xv, .int .i64 bv, .int .i64 jv, .int .u64 jb, .int .u64 j0, .int .u64 j1, .int .u64 j2, .int .u64 j3, .string bc, .int .u64 nu, .int .i64 cv, .int .u64 cb, .int .u64 k0, .int .u64 k1, .int .u64 k2, .int .u64 k3, .int .u64 sl] _ (fun j v hv => ?_) Tryd.underlying40 rfl (by kernel_rfl)
    rw [cell_at HXD]
    have e : (#[.int .i64 l0, .int .i64 xk, .int .i64 xf, .int .i64 xv, .int .i64 bv, .int .i64 jv, .int .u64 jb, .int .u64 j0, .int .u64 j1, .int .u64 j2, .int .u64 j3, .string bc, .int .u64 nu, .int .i64 cv, .int .u64 cb, .int .u64 k0, .int .u64 k1, .int .u64 k2, .int .u64 k3, .int .u64 sl] : Array Value)[1 + j]? = ([.int .i64 xk, .int .i64 xf, .int .i64 xv, .int .i64 bv, .int .i64 jv, .int .u64 jb, .int .u64 j0, .int .u64 j1, .int .u64 j2, .int .u64 j3, .string bc, .int .u64 nu, .int .i64 cv, .int .u64 cb, .int .u64 k0, .int .u64 k1, .int .u64 k2, .int .u64 k3, .int .u64 sl] : List Value)[j]? := by
      rw [Nat.add_comm, List.getElem?_toArray, List.getElem?_cons_succ]
    rw [e]; exact hv
  have HCO : Hid (Calls Tryd.prog 39 #[.pointer (some ⟨p, 0, none⟩), .int .i64 (pickN b 4 : Nat), .agg #[.int .i64 xk, .int .i64 xf, .int .i64 xv, .int .i64 bv, .int .i64 jv, .int .u64 jb, .int .u64 j0, .int .u64 j1, .int .u64 j2, .int .u64 j3, .string bc, .int .u64 nu, .int .i64 cv, .int .u64 cb, .int .u64 k0, .int .u64 k1, .int .u64 k2, .int .u64 k3, .int .u64 sl]] X.drew fun e w' => e = .returned (.bool (K.comes (pickN b 4) ⟨xk, xf, xv, ⟨bv, ⟨jv, jb, j0, j1, j2, j3⟩, bc⟩, nu, ⟨cv, cb, k0, k1, k2, k3⟩, sl⟩).2) ∧ KGoes w w' p A ps (K.comes (pickN b 4) ⟨xk, xf, xv, ⟨bv, ⟨jv, jb, j0, j1, j2, j3⟩, bc⟩, nu, ⟨cv, cb, k0, k1, k2, k3⟩, sl⟩).1) := by
    have hb : Below w.heap.size w X.drew := bnext HB1.out HBX.out.drew
    refine (kcomes X.drew p A ps K (HK1.out.below HBX.out.drew) n HO.out (by omega) (pickN b 4) hpb ⟨xk, xf, xv, ⟨bv, ⟨jv, jb, j0, j1, j2, j3⟩, bc⟩, nu, ⟨cv, cb, k0, k1, k2, k3⟩, sl⟩ HLO.out.1).mono (fun e w' h => ⟨h.1, kgoes_below hb h.2⟩)
  clear hX hpu HS20 HPK2 hw1 hw2 q2
  go_upto_region 14 with fail
  refine khp_r14 HPB t2 hlw HCO ?_
  intro d75 d76 d77 d78 d79 d80 d81 w5 hg5
  simp only [Exit.then]
  have HG5 : Hid (KGoes w w5 p A ps (K.comes (pickN b 4) ⟨xk, xf, xv, ⟨bv, ⟨jv, jb, j0, j1, j2, j3⟩, bc⟩, nu, ⟨cv, cb, k0, k1, k2, k3⟩, sl⟩).1) := hg5
  clear hg5
  go_wp2
  go_ret
  refine ⟨fun _ => true, ?_, ?_⟩
  · rw [HR.out]; rfl
  · rw [HR.out]; exact HG5.out
end Go.Proofs.YtkehpnobidendaaDoor

namespace Go.Proofs.YtkehpnobidendaaDoor
open Go.RowKit

/-- A step of a script. -/
structure StepD where
  kd : Int
  a : Int
  b : Int
structure StepD.Ok (s : StepD) : Prop where
  a0 : -9223372036854775808 ≤ s.a
  a1 : s.a ≤ 9223372036854775807
  b0 : -9223372036854775808 ≤ s.b
  b1 : s.b ≤ 9223372036854775807
/-- One step, whatever its kind. -/
theorem khappens (w : World) (p : Nat) (A : Nat → Nat → Prop) (ps : List (Option Nat)) (K : Clu) (h : KSit w p A ps K) (t : Nat) (g : GInv K t) (ht : t + 1 ≤ 20000000000000) (s : StepD) (hs : s.Ok) :
    Calls Tryd.prog 22 #[.pointer (some ⟨p, 0, none⟩), .agg #[.int .i64 s.kd, .int .i64 s.a, .int .i64 s.b]] w fun e w' => ∃ go, e = .returned (.bool (K.happens s.kd s.a s.b go).2) ∧ KGoes w w' p A ps (K.happens s.kd s.a s.b go).1 := by
  have ok := g.kok (by omega)
  have hcr : ∀ c ∈ K.certs, c.Ok ∧ 0 ≤ c.view ∧ c.view ≤ 1000 := fun c hc => by
    have := g.crt (g.a.c.crt c hc)
    exact ⟨crt_ok this, this.1, this.2.1⟩
  have hl := g.a.c.lie
  obtain ⟨nn, hnn⟩ : ∃ nn : Nat, K.count = (nn : Int) := ⟨K.count.toNat, by have := g.c0; omega⟩
  have hn2 : nn ≤ 20000000000001 := by have := g.c1; omega
  obtain ⟨kd, a, b⟩ := s
  dsimp only
  have a0 := hs.a0; have a1 := hs.a1; have b0 := hs.b0; have b1 := hs.b1
  dsimp only at a0 a1 b0 b1
  by_cases k1 : kd = 1
  · subst k1
    refine (khappens1 w p A ps K h 200000 ok (by omega) a b a0 a1).mono (fun e w' hh => ⟨fun _ => true, ?_⟩)
    have e1 : K.happens 1 a b (fun _ => true) = K.ticks (pickN a 4) := by unfold Clu.happens; rw [if_pos rfl]
    rw [e1]; exact hh
  by_cases k2 : kd = 2
  · subst k2; exact khappens2 w p A ps K h 200000 ok (by omega) a b a0 a1 b0 b1
  by_cases k3 : kd = 3
  · subst k3; exact khappens3 w p A ps K h 200000 ok a b a0 a1 nn hnn hn2
  by_cases k4 : kd = 4
  · subst k4; exact khappens4 w p A ps K h 200000 ok (by omega) a b a0 a1 b0 b1 hl.1 hl.2 hcr g.cn nn hnn hn2
  by_cases k5 : kd = 5
  · subst k5; exact khappens5 w p A ps K h 200000 ok (by omega) a b a0 a1 b0 b1 hl.1 hl.2 hcr g.cn
  by_cases k6 : kd = 6
  · subst k6; exact khappens6 w p A ps K h 200000 ok (by omega) a b a0 a1 b0 b1 hl.1 hl.2 hcr g.cn
  · exact khappens0 w p A ps K h kd a b ⟨k1, k2, k3, k4, k5, k6⟩ a0 a1
set_option maxRecDepth 100000 in
set_option maxHeartbeats 8000000 in
theorem kagreeL (ss : List StepD) (hok : ∀ s ∈ ss, s.Ok) (hlen : ss.length ≤ 19000000000000) (av : Option Addr) (cap g off : Nat) (li pa : Int) (l0 : -9223372036854775808 ≤ li) (l1 : li ≤ 9223372036854775807) (p0 : -9223372036854775808 ≤ pa) (p1 : pa ≤ 9223372036854775807) (w : World) (ht : Tab w)
    (hav : 0 < ss.length → av = some ⟨g, off, none⟩ ∧ g < w.heap.size)
    (hcel : ∀ (i : Nat) (hi : i < ss.length), w.cell? ⟨g, off + i * 3, none⟩ = some (.int .i64 ss[i].kd) ∧ w.cell? ⟨g, off + i * 3 + 1, none⟩ = some (.int .i64 ss[i].a) ∧ w.cell? ⟨g, off + i * 3 + 2, none⟩ = some (.int .i64 ss[i].b)) :
    Calls Tryd.prog 9 #[.slice av ss.length cap, .int .i64 li, .int .i64 pa] w fun e w' => e = .returned (.bool true) ∧ Below w.heap.size w w' := by
  have HAW : Hid (Calls Tryd.prog 10 #[] w fun e w' => e = .returned (.bool true) ∧ Below w.heap.size w w') := kawake w ht
  have HT : Hid (Tab w) := ht
  have HP1 : Hid (∀ (c : Int) (W : World), (c = li ∨ c = pa) → Calls Tryd.prog 13 #[.int .i64 c, .int .i64 4] W fun e w' => e = .returned (.int .i64 (pickN c 4)) ∧ W = w') := fun c W hc => by
    have hb : -9223372036854775808 ≤ c ∧ c ≤ 9223372036854775807 := by
      rcases hc with h | h
      · rw [h]; exact ⟨l0, l1⟩
      · rw [h]; exact ⟨p0, p1⟩
    exact (kpick c 4 hb.1 hb.2 (by decide) (by decide) W).mono (fun _ _ h => ⟨h.1, h.2.symm⟩)
  have hl4 := pickN_lt li 4 (by decide)
  have hp4 := pickN_lt pa 4 (by decide)
  have hpI0 : (0 : Int) ≤ ((pickN pa 4 : Nat) : Int) := by omega
  have hpI : ((pickN pa 4 : Nat) : Int) ≤ 3 := by omega
  have HBG : Hid (∀ W, Tab W → Calls Tryd.prog 19 #[.int .i64 ((pickN li 4 : Nat) : Int), .int .i64 (1 + ((pickN pa 4 : Nat) : Int))] W fun e w' => KBegun W ((pickN li 4 : Nat) : Int) (1 + ((pickN pa 4 : Nat) : Int)) e w') := fun W hW => kbegins W hW _ _ (by omega) (by omega)
  have HG0 : Hid (GInv (Clu.begins ((pickN li 4 : Nat) : Int) (1 + ((pickN pa 4 : Nat) : Int))) 0) := begins_ginv _ _ ⟨by omega, by omega⟩ ⟨by omega, by omega⟩
  have HO0 : Hid ((Clu.begins ((pickN li 4 : Nat) : Int) (1 + ((pickN pa 4 : Nat) : Int))).over = false) := rfl
  have HOK : Hid (∀ s ∈ ss, s.Ok) := hok
  have HAV : Hid (0 < ss.length → av = some ⟨g, off, none⟩ ∧ g < w.heap.size) := hav
  have HCE : Hid (∀ (i : Nat) (hi : i < ss.length), w.cell? ⟨g, off + i * 3, none⟩ = some (.int .i64 ss[i].kd) ∧ w.cell? ⟨g, off + i * 3 + 1, none⟩ = some (.int .i64 ss[i].a) ∧ w.cell? ⟨g, off + i * 3 + 2, none⟩ = some (.int .i64 ss[i].b)) := hcel
  have hlI : (ss.length : Int) ≤ 19000000000000 := by omega
  clear ht hok hav hcel
  go_enter Tryd.func9, Tryd.ntmps9
  go_upto_region 2 with (go_at_call 10; refine HAW.out.mono ?_; rintro e w1 ⟨rfl, hb1⟩; have HB1 : Hid (Below w.heap.size w w1) := hb1; clear hb1)
  have HT1 : Hid (Tab w1) := HT.out.below HB1.out
  go_upto_region 3 with (first | (go_at_call 13; refine (HP1.out _ _ (by first | exact .inl rfl | exact .inr rfl)).mono ?_; rintro e w9 ⟨rfl, rfl⟩) | (go_at_call 19; refine (HBG.out w1 HT1.out).mono ?_; rintro e w2 ⟨p, A, ps, rfl, hs2, hn2, hb2⟩; have HS : Hid (KSit w2 p A ps (Clu.begins ((pickN li 4 : Nat) : Int) (1 + ((pickN pa 4 : Nat) : Int)))) := hs2; have HN : Hid (∀ b, UA A b → w1.heap.size ≤ b) := hn2; have HB2 : Hid (Below w1.heap.size w1 w2) := hb2; clear hs2 hn2 hb2))
  have HBE : Hid (Below w.heap.size w w2) := bnext HB1.out HB2.out
  have HNE : Hid (∀ b, UA A b → w.heap.size ≤ b) := fun b hb => Nat.le_trans HB1.out.size (HN.out b hb)
  clear HAW HBG HT HT1 HB1 HB2 HN HP1
  generalize Clu.begins ((pickN li 4 : Nat) : Int) (1 + ((pickN pa 4 : Nat) : Int)) = K0 at *
  go_wp2
  go_loopw [10] (fun ii wr => ∃ (i : Nat) (A1 : Nat → Nat → Prop) (K : Clu), i ≤ ss.length ∧ ii = .int .i64 i ∧ Hid (KSit wr p A1 ps K ∧ Grow (UA A) w2 (UA A1) ∧ Fr (UA A) w2 wr) ∧ Hid (GInv K i) ∧ Hid (K.over = false)) (fun ii _ => ss.length - (intOf ii).toNat)
  case atStart => exact ⟨0, A, K0, by omega, rfl, ⟨HS.out, Grow.refl _ _, Fr.refl _ _⟩, HG0.out, HO0.out⟩
  case round =>
    clear HS HG0 HO0
    obtain ⟨i, A1, K, hi, rfl, hS, hG, hO⟩ := hrel
    have hi0 : (0 : Int) ≤ (i : Int) := by omega
    have hov := hS.out.1.over
    rw [hO.out] at hov
    have HBW : Hid (Below w.heap.size w wr) := kbelow HBE.out hS.out.2.2 HNE.out
    by_cases hil : i < ss.length
    rotate_left
    · have hiI : ¬ (i : Int) < (ss.length : Int) := by omega
      go_wp2
      go_ret
      exact ⟨rfl, HBW.out⟩
    · have hiI : (i : Int) < (ss.length : Int) := by omega
      obtain ⟨rfl, hgw⟩ := HAV.out (by omega)
      obtain ⟨c0, c1, c2⟩ := HCE.out i hil
      have d0 := (HBW.out.cell (p := ⟨g, off + i * 3, none⟩) hgw).trans c0
      have d1 := (HBW.out.cell (p := ⟨g, off + i * 3 + 1, none⟩) hgw).trans c1
      have d2 := (HBW.out.cell (p := ⟨g, off + i * 3 + 2, none⟩) hgw).trans c2
      have HSO : Hid (ss[i].Ok) := HOK.out _ (List.getElem_mem hil)
      generalize ss[i] = s at d0 d1 d2 HSO
      have HHA : Hid (Calls Tryd.prog 22 #[.pointer (some ⟨p, 0, none⟩), .agg #[.int .i64 s.kd, .int .i64 s.a, .int .i64 s.b]] wr fun e w' => ∃ go, e = .returned (.bool (K.happens s.kd s.a s.b go).2) ∧ KGoes wr w' p A1 ps (K.happens s.kd s.a s.b go).1) := khappens wr p A1 ps K hS.out.1 i hG.out (by omega) s HSO.out
      have HGI : Hid (∀ go, (K.happens s.kd s.a s.b go).1.over = false → GInv (K.happens s.kd s.a s.b go).1 (i + 1) ∧ (K.happens s.kd s.a s.b go).2 = true) := fun go h => happens_ginv hG.out (by omega) s.kd s.a s.b go h
      clear c0 c1 c2 HSO
      go_upto_region 9 with (go_at_call 22; refine HHA.out.mono ?_; rintro e w3 ⟨go, rfl, hg3⟩; have HG3 : Hid (KGoes wr w3 p A1 ps (K.happens s.kd s.a s.b go).1) := hg3; clear hg3)
      have HGI2 := HGI.out go
      have HGI3 : Hid ((K.happens s.kd s.a s.b go).1.over = false → GInv (K.happens s.kd s.a s.b go).1 (i + 1) ∧ (K.happens s.kd s.a s.b go).2 = true) := HGI2
      clear HGI2 HGI HHA d0 d1 d2 hov
      generalize K.happens s.kd s.a s.b go = R at HG3 HGI3 ⊢
      obtain ⟨K3, b3⟩ := R
      dsimp only at HG3 HGI3 ⊢
      obtain ⟨A3, hs3, hgr3⟩ := HG3.out.ex
      have hov3 := hs3.over
      have HS3 : Hid (KSit w3 p A3 ps K3 ∧ Grow (UA A) w2 (UA A3) ∧ Fr (UA A) w2 w3) := ⟨hs3, hS.out.2.1.trans hS.out.2.2.size hgr3, hS.out.2.2.grow hS.out.2.1 HG3.out.fr⟩
      have HBW3 : Hid (Below w.heap.size w w3) := kbelow HBE.out HS3.out.2.2 HNE.out
      clear hs3 hgr3 HG3
      cases ho3 : K3.over with
      | true =>
        rw [ho3] at hov3
        go_wp2
        go_ret
        exact ⟨rfl, HBW3.out⟩
      | false =>
        rw [ho3] at hov3
        obtain ⟨hg4, hb4⟩ := HGI3.out ho3
        subst hb4
        have HG4 : Hid (GInv K3 (i + 1)) := hg4
        have HO4 : Hid (K3.over = false) := ho3
        have HAG : Hid (Calls Tryd.prog 24 #[.pointer (some ⟨p, 0, none⟩)] w3 fun e w' => e = .returned (.bool true) ∧ Below w3.heap.size w3 w') := by
          have h1 := kagree w3 p A3 ps K3 HS3.out.1 (fun k => by have := (hg4.kok (by omega)).wl k; omega)
          rw [hg4.agree] at h1
          exact h1
        clear hg4 ho3 HGI3
        go_wp2_with (go_at_call 24; refine HAG.out.mono ?_; rintro e w4 ⟨rfl, hb4⟩; have HB4 : Hid (Below w3.heap.size w3 w4) := hb4; clear hb4)
        go_roundw
        case rel => exact ⟨i + 1, A3, K3, by omega, by go_num, ⟨HS3.out.1.below HB4.out, HS3.out.2.1, HS3.out.2.2.trans (Fr.of_below HB4.out) (fun _ h => .inl h)⟩, HG4.out, HO4.out⟩
        case measure => simp [intOf]; omega
end Go.Proofs.YtkehpnobidendaaDoor
