/- parleykeep's steady. -/
import Derived.Test.YtkehpnobidendaaDoorM39
import Derived.Test.YtkehpnobidendaaDoorM40
import Derived.Test.YtkehpnobidendaaDoorM41
namespace Go.Proofs.YtkehpnobidendaaDoor
open Go.RowKit Go.Maps

theorem mc_len (o : Option Nat) : (mcells o).length = 1 := rfl
set_option maxRecDepth 100000 in
set_option maxHeartbeats 4000000 in
theorem ksteady (w : World) (p : Nat) (S : Nat → Prop) (ps : List (Option Nat)) (K : Clu) (h : KMem w p S ps K) (k : Nat) (hk : k < 4) (pm : Nat) (Sm : Nat → Prop) (m : Mem) (hps : ps.length = 4) (hpk : ps[k]? = some (some pm)) (hm : PMem w pm Sm m) (hll : m.log.length ≤ 1700000000000) (hlu : ∀ n ∈ m.log, n < 18446744073709551616) (hwl : (K.was k).log.length ≤ 1700000000000) :
    Calls Tryd.prog 26 #[.pointer (some ⟨p, 0, none⟩), .int .i64 k] w fun e w' => e = .returned (.bool ((K.was k).grows m.sta)) ∧ ∃ S', KMem w' p S' ps (K.setWas k m.sta) ∧ Grow S w S' ∧ Fr S w w' := by
  obtain ⟨vm, vl, vc, vv, l0, l1, l2, l3, vb, g1⟩ := h.ex
  have hr : Row w S 31 1 vm ps.length (ps.flatMap mcells) := g1.row 0 _ _ _ rfl rfl rfl
  obtain ⟨am, cm, rfl⟩ := hr.isSlice
  obtain ⟨g, off, rfl, _, hg, hcap⟩ := hr.place (by omega)
  have hk4 : k < ps.length := by omega
  have hpk' : ps[k] = some pm := by rw [List.getElem?_eq_getElem hk4] at hpk; exact Option.some.inj hpk
  have HC : Hid (∀ W, Below w.heap.size w W → W.cell? ⟨p, 0, none⟩ = some (.slice (some ⟨g, off, none⟩) 4 cm) ∧ W.cell? ⟨g, off + k, none⟩ = some (.pointer (some ⟨pm, 0, none⟩))) := fun W hW => by
    have q := cell_at g1.box 0
    rw [← hps]
    refine ⟨(hW.cell (p := ⟨p, 0, none⟩) h.lt).trans q, ?_⟩
    have := hr.elem mc_len k 0 hk4 (by omega)
    rw [hpk'] at this
    exact (hW.cell (p := ⟨g, off + k, none⟩) hg).trans (by simpa [mcells, mptr] using this)
  have HLG : Hid (∀ W, Below w.heap.size w W → Calls Tryd.prog 16 #[.pointer (some ⟨pm, 0, none⟩)] W fun e w' => ∃ v, e = .returned v ∧ Row w' (fun k => W.heap.size ≤ k) 9 1 v m.commands.length (m.commands.flatMap scells) ∧ Below W.heap.size W w') := fun W hW => plog W pm Sm m (hm.below hW) hll hlu
  have HHI : Hid (∀ W, Below w.heap.size w W → Calls Tryd.prog 18 #[.pointer (some ⟨pm, 0, none⟩)] W fun e w' => e = .returned (.agg m.high.cells.toArray) ∧ Below W.heap.size W w') := fun W hW => phigh W pm Sm m (hm.below hW)
  have HLO : Hid (∀ W, Below w.heap.size w W → Calls Tryd.prog 43 #[.pointer (some ⟨pm, 0, none⟩)] W fun e w' => e = .returned (.agg m.locked.cells.toArray) ∧ Below W.heap.size W w') := fun W hW => plocked W pm Sm m (hm.below hW)
  have HVI : Hid (∀ W, Below w.heap.size w W → Calls Tryd.prog 17 #[.pointer (some ⟨pm, 0, none⟩)] W fun e w' => e = .returned (.int .i64 m.view) ∧ w' = W) := fun W hW => pview W pm Sm m (hm.below hW)
  have HK : Hid (KMem w p S ps K) := h
  have H1 : Hid (Bun w p 62 S (ccells K (.slice (some ⟨g, off, none⟩) ps.length cm) vl vc vv l0 l1 l2 l3 vb) [.slice (some ⟨g, off, none⟩) ps.length cm, vl, vc, vv, l0, l1, l2, l3, vb] kE (kX ps K)) := g1
  have HPS : Hid (ps.length = 4) := hps
  clear h g1 hr hm hpk hpk' hk4 hcap hps
  obtain ⟨st, hst⟩ : ∃ y, y = m.sta := ⟨_, rfl⟩
  obtain ⟨⟨hv, hb, h0, h1, h2, h3⟩, hhi⟩ : ∃ y, y = m.high := ⟨_, rfl⟩
  obtain ⟨⟨lv, lb, b0, b1, b2, b3⟩, hlo⟩ : ∃ y, y = m.locked := ⟨_, rfl⟩
  have hst2 : st = ⟨m.view, hv, lv, m.commands⟩ := by rw [hst]; unfold Mem.sta; rw [← hhi, ← hlo]
  rw [← hhi] at HHI
  rw [← hlo] at HLO
  rw [← hst, hst2]
  have hcl : m.commands.length ≤ 1700000000000 := by simp [Mem.commands]; exact hll
  clear hst hst2 hhi hlo hll hlu
  generalize m.commands = cs at *
  generalize m.view = mv at *
  dsimp only [Crt.cells] at HHI HLO
  have HR : Hid ((K.was k).grows ⟨mv, hv, lv, cs⟩ = (isPrefix (K.was k).log cs && (decide ((K.was k).view ≤ mv) && (decide ((K.was k).high ≤ hv) && (decide ((K.was k).locked ≤ lv) && decide (lv ≤ hv)))))) := rfl
  obtain ⟨R, hRR⟩ : ∃ r, r = (K.was k).grows ⟨mv, hv, lv, cs⟩ := ⟨_, rfl⟩
  rw [← hRR] at HR ⊢
  clear hRR
  have e0 := (HC.out w (Below.refl _ _)).1
  have e1 := (HC.out w (Below.refl _ _)).2
  have gl : g < w.heap.size := hg
  have pl : p < w.heap.size := HK.out.lt
  have hk0 : (0 : Int) ≤ (k : Int) := by omega
  have hk1 : (k : Int) < 4 := by omega
  go_enter Tryd.func26, Tryd.ntmps26
  go_upto_region 4 with (first
    | (go_at_call 18; refine (HHI.out _ (Below.refl _ _)).mono ?_; rintro e w1 ⟨rfl, c1⟩; have HB1 : Hid (Below w.heap.size w w1) := c1; clear c1)
    | (go_at_call 43; refine (HLO.out _ (bnext HB1.out (below_alloc _ _))).mono ?_; rintro e w2 ⟨rfl, c2⟩; have HB2 : Hid (Below (w1.alloc (.cells #[.int .i64 hv, .int .u64 hb, .int .u64 h0, .int .u64 h1, .int .u64 h2, .int .u64 h3] 26)).heap.size (w1.alloc (.cells #[.int .i64 hv, .int .u64 hb, .int .u64 h0, .int .u64 h1, .int .u64 h2, .int .u64 h3] 26)) w2) := c2; clear c2))
  obtain ⟨W3, hW3⟩ : ∃ W, W = w2.alloc (.cells #[.int .i64 lv, .int .u64 lb, .int .u64 b0, .int .u64 b1, .int .u64 b2, .int .u64 b3] 26) := ⟨_, rfl⟩
  rw [← hW3]
  have HB3 : Hid (Below w.heap.size w W3) := by rw [hW3]; exact bnext (bnext (bnext HB1.out (below_alloc _ _)) HB2.out) (below_alloc _ _)
  have HXH : Hid (W3.heap[w1.heap.size]? = some (.cells #[.int .i64 hv, .int .u64 hb, .int .u64 h0, .int .u64 h1, .int .u64 h2, .int .u64 h3] 26 (0, 0))) := by
    have q := (HB2.out.block _ (by simp : w1.heap.size < (w1.alloc (.cells #[.int .i64 hv, .int .u64 hb, .int .u64 h0, .int .u64 h1, .int .u64 h2, .int .u64 h3] 26)).heap.size)).trans (heap_alloc_new w1 _)
    rw [hW3]; exact (Below.heap_alloc _ _ _ (lt_at q)).trans q
  have HXL : Hid (W3.heap[w2.heap.size]? = some (.cells #[.int .i64 lv, .int .u64 lb, .int .u64 b0, .int .u64 b1, .int .u64 b2, .int .u64 b3] 26 (0, 0))) := by rw [hW3]; exact heap_alloc_new w2 _
  clear hW3 HB1 HB2 e0 e1 gl pl
  have HS : Hid (∀ w', Below W3.heap.size W3 w' → Below W3.heap.size W3 w' ∧ w'.cell? ⟨w1.heap.size, 0, none⟩ = some (.int .i64 hv) ∧ w'.cell? ⟨w2.heap.size, 0, none⟩ = some (.int .i64 lv)) := fun w' hb => ⟨hb, cell_at ((hb.block _ (lt_at HXH.out)).trans HXH.out) 0, cell_at ((hb.block _ (lt_at HXL.out)).trans HXL.out) 0⟩
  go_cut [8] (fun s w' => ∃ B av capv, s = .pointer (some ⟨B, 0, none⟩) ∧ Hid (Below W3.heap.size W3 w') ∧ Hid (W3.heap.size ≤ B) ∧ Hid (w'.heap[B]? = some (.cells #[.int .i64 mv, .int .i64 hv, .int .i64 lv, .slice av cs.length capv] 58 (0, 0))) ∧ Hid (Row w' (fun k => W3.heap.size ≤ k) 9 1 (.slice av cs.length capv) cs.length (cs.flatMap scells)))
  case first =>
    clear HHI HLO HC H1
    go_region_held3 (fun w' => Below W3.heap.size W3 w' ∧ w'.cell? ⟨w1.heap.size, 0, none⟩ = some (.int .i64 hv) ∧ w'.cell? ⟨w2.heap.size, 0, none⟩ = some (.int .i64 lv))
      (first | (exact HS.out _ (bnext (bnext (Below.refl _ _).drew (by assumption)) (below_alloc _ _))) | (exact HS.out _ (bnext (bnext (Below.refl _ _).drew (below_alloc _ _)) (by assumption))) | (exact HS.out _ (bnext (Below.refl _ _).drew (by assumption))) | (exact HS.out _ (((((bnext (bnext (Below.refl _ _).drew (below_alloc _ _)) (by assumption)).setCell (p := ⟨W3.heap.size, 0, none⟩) (Nat.le_refl _) _).setCell (p := ⟨W3.heap.size, 1, none⟩) (Nat.le_refl _) _).setCell (p := ⟨W3.heap.size, 2, none⟩) (Nat.le_refl _) _).setCell (p := ⟨W3.heap.size, 3, none⟩) (Nat.le_refl _) _)) | (exact HS.out _ (bnext (And.left ‹Below W3.heap.size W3 _ ∧ _›) (by assumption))) | (exact HS.out _ (Below.refl _ _).drew) | (exact HS.out _ (bnext (And.left ‹Below W3.heap.size W3 _ ∧ _›) (below_alloc _ _))) | (exact HS.out _ (And.left ‹Below W3.heap.size W3 _ ∧ _›)) | (exact HS.out _ (bnext (Below.refl _ _).drew (below_alloc _ _))))
      ((first
        | (go_at_call 17; refine (HVI.out _ (bnext HB3.out (And.left ‹Below W3.heap.size W3 _ ∧ _›))).mono ?_; rintro e w4 ⟨rfl, rfl⟩)
        | (go_at_call 16; refine (HLG.out _ (bnext HB3.out (And.left ‹Below W3.heap.size W3 _ ∧ _›))).mono ?_; rintro e w5 ⟨v, rfl, hrow, hb5⟩; obtain ⟨av, capv, rfl⟩ := hrow.isSlice; have HROW : Hid _ := hrow; clear hrow; (try (have hz5 := (hb5.block W3.heap.size (by simp)).trans (heap_alloc_new W3 (.cells #[.int .i64 0, .int .i64 0, .int .i64 0, .slice none 0 0] 58)); have z0 := cell_at hz5 0; have z1 := cell_at hz5 1; have z2 := cell_at hz5 2; have z3 := cell_at hz5 3; have zf := free_at hz5; simp at z0 z1 z2 z3; clear hz5)))))
    all_goals (
      go_wp2
      go_meet
      case rel =>
        first
        | (have hbl : Below W3.heap.size W3 w5 := bnext (Below.refl _ _).drew hb5
           refine ⟨w5.heap.size, av, capv, rfl, bnext hbl (below_alloc _ _), hbl.size, heap_alloc_new w5 _, ?_⟩
           exact (HROW.out.alloc _).same (fun k hk _ => ⟨rfl, Nat.le_trans (Nat.le_refl W3.heap.size) hk⟩))
        | (have hz5 := (hb5.block W3.heap.size (by simp)).trans (heap_alloc_new W3 (.cells #[.int .i64 0, .int .i64 0, .int .i64 0, .slice none 0 0] 58))
           have hbl : Below W3.heap.size W3 w5 := bnext (bnext (Below.refl _ _).drew (below_alloc _ _)) hb5
           refine ⟨W3.heap.size, av, capv, rfl, (((hbl.setCell (p := ⟨W3.heap.size, 0, none⟩) (Nat.le_refl _) _).setCell (p := ⟨W3.heap.size, 1, none⟩) (Nat.le_refl _) _).setCell (p := ⟨W3.heap.size, 2, none⟩) (Nat.le_refl _) _).setCell (p := ⟨W3.heap.size, 3, none⟩) (Nat.le_refl _) _, Nat.le_refl _, heap_store (heap_store (heap_store (heap_store hz5 (i := 0) (.int .i64 mv)) (i := 1) (.int .i64 hv)) (i := 2) (.int .i64 lv)) (i := 3) (.slice av cs.length capv), ?_⟩
           exact HROW.out.same (fun k hk _ => ⟨by
             have hk' : W3.heap.size + 1 ≤ k := by simpa using hk
             rw [heap_store_ne _ (by omega), heap_store_ne _ (by omega), heap_store_ne _ (by omega), heap_store_ne _ (by omega)], by
             have hk' : W3.heap.size + 1 ≤ k := by simpa using hk
             omega⟩)))
  case rest =>
    obtain ⟨B, av, capv, rfl, hB4, hBB, hX4, hRow4⟩ := hcut
    obtain ⟨wa, rfl⟩ : ∃ wa, wa = wc := ⟨_, rfl⟩
    have HBa : Hid (Bun wa p 62 S (ccells K (.slice (some ⟨g, off, none⟩) ps.length cm) vl vc vv l0 l1 l2 l3 vb) [.slice (some ⟨g, off, none⟩) ps.length cm, vl, vc, vv, l0, l1, l2, l3, vb] kE (kX ps K)) := H1.out.below (bnext HB3.out hB4.out)
    have HBw : Hid (∀ k, S k → k < w.heap.size) := H1.out.lt
    have HWA : Hid (Below w.heap.size w wa) := bnext HB3.out hB4.out
    clear HLG HHI HLO HVI HXH HXL HS HC H1 hg
    have pla : p < wa.heap.size := lt_at HBa.out.box
    go_upto_region 5 with fail
    go_cut [9] (fun s w' => ∃ B9 lo clo, s = .pointer (some ⟨B9, 0, none⟩) ∧ Hid (wa.heap.size ≤ B9 ∧ (Value.slice lo (K.was k).log.length clo).ownBlock ≠ some p) ∧ Hid (Below wa.heap.size wa w') ∧ Hid (w'.heap[B9]? = some (.cells #[.int .i64 (K.was k).view, .int .i64 (K.was k).high, .int .i64 (K.was k).locked, .slice lo (K.was k).log.length clo] 58 (0, 0))) ∧ Hid (Row w' S 9 1 (.slice lo (K.was k).log.length clo) (K.was k).log.length ((K.was k).log.flatMap scells)))
    case first =>
        rcases (by omega : k = 0 ∨ k = 1 ∨ k = 2 ∨ k = 3) with rfl | rfl | rfl | rfl
        · have hl : Row wa S 9 1 l0 K.w0.log.length (K.w0.log.flatMap scells) := HBa.out.row 4 _ _ _ rfl rfl rfl
          obtain ⟨lo, clo, rfl⟩ := hl.isSlice
          have q0 : wa.cell? ⟨p, 5, none⟩ = some (.int .i64 K.w0.view) := cell_at HBa.out.box 5
          have q1 : wa.cell? ⟨p, 6, none⟩ = some (.int .i64 K.w0.high) := cell_at HBa.out.box 6
          have q2 : wa.cell? ⟨p, 7, none⟩ = some (.int .i64 K.w0.locked) := cell_at HBa.out.box 7
          have q3 : wa.cell? ⟨p, 8, none⟩ = some (.slice lo K.w0.log.length clo) := cell_at HBa.out.box 8
          have HL : Hid (Row wa S 9 1 (.slice lo K.w0.log.length clo) K.w0.log.length (K.w0.log.flatMap scells)) := hl
          have HOF : Hid ((Value.slice lo K.w0.log.length clo).ownBlock ≠ some p) := HBa.out.off 4 _ rfl
          clear hl
          go_wp2
          go_meet
          case rel => exact ⟨wa.heap.size, lo, clo, rfl, ⟨Nat.le_refl _, HOF.out⟩, below_alloc _ _, heap_alloc_new wa _, HL.out.alloc _⟩
        · have hl : Row wa S 9 1 l1 K.w1.log.length (K.w1.log.flatMap scells) := HBa.out.row 5 _ _ _ rfl rfl rfl
          obtain ⟨lo, clo, rfl⟩ := hl.isSlice
          have q0 : wa.cell? ⟨p, 9, none⟩ = some (.int .i64 K.w1.view) := cell_at HBa.out.box 9
          have q1 : wa.cell? ⟨p, 10, none⟩ = some (.int .i64 K.w1.high) := cell_at HBa.out.box 10
          have q2 : wa.cell? ⟨p, 11, none⟩ = some (.int .i64 K.w1.locked) := cell_at HBa.out.box 11
          have q3 : wa.cell? ⟨p, 12, none⟩ = some (.slice lo K.w1.log.length clo) := cell_at HBa.out.box 12
          have HL : Hid (Row wa S 9 1 (.slice lo K.w1.log.length clo) K.w1.log.length (K.w1.log.flatMap scells)) := hl
          have HOF : Hid ((Value.slice lo K.w1.log.length clo).ownBlock ≠ some p) := HBa.out.off 5 _ rfl
          clear hl
          go_wp2
          go_meet
          case rel => exact ⟨wa.heap.size, lo, clo, rfl, ⟨Nat.le_refl _, HOF.out⟩, below_alloc _ _, heap_alloc_new wa _, HL.out.alloc _⟩
        · have hl : Row wa S 9 1 l2 K.w2.log.length (K.w2.log.flatMap scells) := HBa.out.row 6 _ _ _ rfl rfl rfl
          obtain ⟨lo, clo, rfl⟩ := hl.isSlice
          have q0 : wa.cell? ⟨p, 13, none⟩ = some (.int .i64 K.w2.view) := cell_at HBa.out.box 13
          have q1 : wa.cell? ⟨p, 14, none⟩ = some (.int .i64 K.w2.high) := cell_at HBa.out.box 14
          have q2 : wa.cell? ⟨p, 15, none⟩ = some (.int .i64 K.w2.locked) := cell_at HBa.out.box 15
          have q3 : wa.cell? ⟨p, 16, none⟩ = some (.slice lo K.w2.log.length clo) := cell_at HBa.out.box 16
          have HL : Hid (Row wa S 9 1 (.slice lo K.w2.log.length clo) K.w2.log.length (K.w2.log.flatMap scells)) := hl
          have HOF : Hid ((Value.slice lo K.w2.log.length clo).ownBlock ≠ some p) := HBa.out.off 6 _ rfl
          clear hl
          go_wp2
          go_meet
          case rel => exact ⟨wa.heap.size, lo, clo, rfl, ⟨Nat.le_refl _, HOF.out⟩, below_alloc _ _, heap_alloc_new wa _, HL.out.alloc _⟩
        · have hl : Row wa S 9 1 l3 K.w3.log.length (K.w3.log.flatMap scells) := HBa.out.row 7 _ _ _ rfl rfl rfl
          obtain ⟨lo, clo, rfl⟩ := hl.isSlice
          have q0 : wa.cell? ⟨p, 17, none⟩ = some (.int .i64 K.w3.view) := cell_at HBa.out.box 17
          have q1 : wa.cell? ⟨p, 18, none⟩ = some (.int .i64 K.w3.high) := cell_at HBa.out.box 18
          have q2 : wa.cell? ⟨p, 19, none⟩ = some (.int .i64 K.w3.locked) := cell_at HBa.out.box 19
          have q3 : wa.cell? ⟨p, 20, none⟩ = some (.slice lo K.w3.log.length clo) := cell_at HBa.out.box 20
          have HL : Hid (Row wa S 9 1 (.slice lo K.w3.log.length clo) K.w3.log.length (K.w3.log.flatMap scells)) := hl
          have HOF : Hid ((Value.slice lo K.w3.log.length clo).ownBlock ≠ some p) := HBa.out.off 7 _ rfl
          clear hl
          go_wp2
          go_meet
          case rel => exact ⟨wa.heap.size, lo, clo, rfl, ⟨Nat.le_refl _, HOF.out⟩, below_alloc _ _, heap_alloc_new wa _, HL.out.alloc _⟩
    case rest =>
      obtain ⟨B9, lo, clo, rfl, hBO, hB5, hX5, hRow5⟩ := hcut
      obtain ⟨wb, rfl⟩ : ∃ wb, wb = wc := ⟨_, rfl⟩
      have HBb : Hid (Bun wb p 62 S (ccells K (.slice (some ⟨g, off, none⟩) ps.length cm) vl vc vv l0 l1 l2 l3 vb) [.slice (some ⟨g, off, none⟩) ps.length cm, vl, vc, vv, l0, l1, l2, l3, vb] kE (kX ps K)) := HBa.out.below hB5.out
      have HXb : Hid (wb.heap[B]? = some (.cells #[.int .i64 mv, .int .i64 hv, .int .i64 lv, .slice av cs.length capv] 58 (0, 0))) := (hB5.out.block _ (lt_at hX4.out)).trans hX4.out
      have HRb : Hid (Row wb (fun k => W3.heap.size ≤ k) 9 1 (.slice av cs.length capv) cs.length (cs.flatMap scells)) := hRow4.out.below hB5.out
      have HWB : Hid (Below w.heap.size w wb) := bnext HWA.out hB5.out
      have HPL : Hid (p < W3.heap.size) := Nat.lt_of_lt_of_le (HBw.out p HBb.out.sp) HB3.out.size
      have HB9 : Hid (B9 ≠ p ∧ B ≠ p) := ⟨fun e => by have := hBO.out.1; omega, fun e => by have := hBB.out; have := HPL.out; omega⟩
      have HTB : Hid (Tab wb ∧ ¬ S 0) := ⟨HK.out.tab.below HWB.out, HK.out.t0⟩
      have HEND : Hid (∀ w', (∃ a1 a2 a3 a4 c0 c1 c2 c3 a5, Bun w' p 62 (fun k => S k ∨ (Value.slice av cs.length capv).ownBlock = some k) (ccells (K.setWas k ⟨mv, hv, lv, cs⟩) a1 a2 a3 a4 c0 c1 c2 c3 a5) [a1, a2, a3, a4, c0, c1, c2, c3, a5] kE (kX ps (K.setWas k ⟨mv, hv, lv, cs⟩))) → Fr (fun k => k = p) wb w' → Hid (∃ S', KMem w' p S' ps (K.setWas k ⟨mv, hv, lv, cs⟩) ∧ Grow S w S' ∧ Fr S w w') ∧ Hid (w'.heap[B]? = some (.cells #[.int .i64 mv, .int .i64 hv, .int .i64 lv, .slice av cs.length capv] 58 (0, 0))) ∧ Hid (w'.heap[B9]? = some (.cells #[.int .i64 (K.was k).view, .int .i64 (K.was k).high, .int .i64 (K.was k).locked, .slice lo (K.was k).log.length clo] 58 (0, 0))) ∧ Hid (Row w' S 9 1 (.slice lo (K.was k).log.length clo) (K.was k).log.length ((K.was k).log.flatMap scells)) ∧ Hid (Row w' (fun k => W3.heap.size ≤ k) 9 1 (.slice av cs.length capv) cs.length (cs.flatMap scells))) := fun w' hbn hf => by
        have hsp : S p := HK.out.sp
        have hpos : 0 < W3.heap.size := by have := HPL.out; omega
        have hown : ∀ j, (Value.slice av cs.length capv).ownBlock = some j → W3.heap.size ≤ j := fun j hj => (HRb.out.ownS hj).1
        refine ⟨⟨_, ⟨hbn, HTB.out.1.fr hf (fun e => HTB.out.2 (by rw [e]; exact hsp)), ?_⟩, fun j hj => ?_, (Fr.of_below HWB.out).trans (hf.mono (S' := S) (fun j hj => by rw [hj]; exact hsp)) (fun _ h => .inl h)⟩, (hf.block _ (lt_at HXb.out) HB9.out.2).trans HXb.out, (hf.block _ (lt_at hX5.out) HB9.out.1).trans hX5.out, ?_, ?_⟩
        · rintro (h1 | h1)
          · exact HTB.out.2 h1
          · have := hown 0 h1; omega
        · rcases hj with h1 | h1
          · exact .inl h1
          · exact .inr (Nat.le_trans HB3.out.size (hown j h1))
        · refine ⟨hRow5.out.1, ?_⟩
          rcases hRow5.out.2 with hn | ⟨gg, oo, cc, cur, hv', hS', hg', rest⟩
          · exact .inl hn
          · refine .inr ⟨gg, oo, cc, cur, hv', hS', (hf.block gg (lt_at hg') (fun e => hBO.out.2 (by rw [hv', e]; rfl))).trans hg', rest⟩
        · exact HRb.out.same (fun j hj hl => ⟨hf.block j hl (by have := HPL.out; omega), hj⟩)
      clear HBa hX4 hRow4 hB5
      have plb : p < wb.heap.size := lt_at HBb.out.box
      have x0 : wb.cell? ⟨B, 0, none⟩ = some (.int .i64 mv) := cell_at HXb.out 0
      have x1 : wb.cell? ⟨B, 1, none⟩ = some (.int .i64 hv) := cell_at HXb.out 1
      have x2 : wb.cell? ⟨B, 2, none⟩ = some (.int .i64 lv) := cell_at HXb.out 2
      have x3 : wb.cell? ⟨B, 3, none⟩ = some (.slice av cs.length capv) := cell_at HXb.out 3
      go_upto_region 6 with fail
      go_cut [] (fun w' => Hid (∃ S', KMem w' p S' ps (K.setWas k ⟨mv, hv, lv, cs⟩) ∧ Grow S w S' ∧ Fr S w w') ∧ Hid (w'.heap[B]? = some (.cells #[.int .i64 mv, .int .i64 hv, .int .i64 lv, .slice av cs.length capv] 58 (0, 0))) ∧ Hid (w'.heap[B9]? = some (.cells #[.int .i64 (K.was k).view, .int .i64 (K.was k).high, .int .i64 (K.was k).locked, .slice lo (K.was k).log.length clo] 58 (0, 0))) ∧ Hid (Row w' S 9 1 (.slice lo (K.was k).log.length clo) (K.was k).log.length ((K.was k).log.flatMap scells)) ∧ Hid (Row w' (fun k => W3.heap.size ≤ k) 9 1 (.slice av cs.length capv) cs.length (cs.flatMap scells)))
      case first =>
          rcases (by omega : k = 0 ∨ k = 1 ∨ k = 2 ∨ k = 3) with rfl | rfl | rfl | rfl
          · have q0 : wb.cell? ⟨p, 5, none⟩ = some (.int .i64 K.w0.view) := cell_at HBb.out.box 5
            have q1 : wb.cell? ⟨p, 6, none⟩ = some (.int .i64 K.w0.high) := cell_at HBb.out.box 6
            have q2 : wb.cell? ⟨p, 7, none⟩ = some (.int .i64 K.w0.locked) := cell_at HBb.out.box 7
            have q3 : wb.cell? ⟨p, 8, none⟩ = some l0 := cell_at HBb.out.box 8
            have fz := free_at HBb.out.box
            have HQ : Hid (Bun ((((wb.drew.setCell ⟨p, 5, none⟩ (.int .i64 mv)).setCell ⟨p, 6, none⟩ (.int .i64 hv)).setCell ⟨p, 7, none⟩ (.int .i64 lv)).setCell ⟨p, 8, none⟩ (.slice av cs.length capv)) p 62 (fun k => S k ∨ (Value.slice av cs.length capv).ownBlock = some k) (ccells (K.setWas 0 ⟨mv, hv, lv, cs⟩) (.slice (some ⟨g, off, none⟩) ps.length cm) vl vc vv (.slice av cs.length capv) l1 l2 l3 vb) [.slice (some ⟨g, off, none⟩) ps.length cm, vl, vc, vv, .slice av cs.length capv, l1, l2, l3, vb] kE (kX ps (K.setWas 0 ⟨mv, hv, lv, cs⟩))) := by
              refine Bun.fresh (N := W3.heap.size) (((HBb.out.drew.store 5 _ rfl).store 6 _ rfl).store 7 _ rfl) 4 rfl rfl _ (cs.length, cs.flatMap scells) ?_ (fun k hk => Nat.lt_of_lt_of_le (HBw.out k hk) HB3.out.size) 8 rfl rfl rfl
              exact (HRb.out.drew).same (fun k hk _ => ⟨by rw [heap_store_ne _ (by have := HPL.out; omega), heap_store_ne _ (by have := HPL.out; omega), heap_store_ne _ (by have := HPL.out; omega)], hk⟩)
            have HF : Hid (Fr (fun k => k = p) wb ((((wb.drew.setCell ⟨p, 5, none⟩ (.int .i64 mv)).setCell ⟨p, 6, none⟩ (.int .i64 hv)).setCell ⟨p, 7, none⟩ (.int .i64 lv)).setCell ⟨p, 8, none⟩ (.slice av cs.length capv))) := (((((Fr.drew (fun k => k = p) wb).trans (Fr.setCell (S := fun k => k = p) _ (a := ⟨p, 5, none⟩) rfl _) (fun _ h => .inl h)).trans (Fr.setCell (S := fun k => k = p) _ (a := ⟨p, 6, none⟩) rfl _) (fun _ h => .inl h)).trans (Fr.setCell (S := fun k => k = p) _ (a := ⟨p, 7, none⟩) rfl _) (fun _ h => .inl h)).trans (Fr.setCell (S := fun k => k = p) _ (a := ⟨p, 8, none⟩) rfl _) (fun _ h => .inl h))
            clear HBb
            go_region
            all_goals (
              go_wp2
              go_meet
              case rel => exact HEND.out _ ⟨_, _, _, _, _, _, _, _, _, HQ.out⟩ HF.out)
          · have q0 : wb.cell? ⟨p, 9, none⟩ = some (.int .i64 K.w1.view) := cell_at HBb.out.box 9
            have q1 : wb.cell? ⟨p, 10, none⟩ = some (.int .i64 K.w1.high) := cell_at HBb.out.box 10
            have q2 : wb.cell? ⟨p, 11, none⟩ = some (.int .i64 K.w1.locked) := cell_at HBb.out.box 11
            have q3 : wb.cell? ⟨p, 12, none⟩ = some l1 := cell_at HBb.out.box 12
            have fz := free_at HBb.out.box
            have HQ : Hid (Bun ((((wb.drew.setCell ⟨p, 9, none⟩ (.int .i64 mv)).setCell ⟨p, 10, none⟩ (.int .i64 hv)).setCell ⟨p, 11, none⟩ (.int .i64 lv)).setCell ⟨p, 12, none⟩ (.slice av cs.length capv)) p 62 (fun k => S k ∨ (Value.slice av cs.length capv).ownBlock = some k) (ccells (K.setWas 1 ⟨mv, hv, lv, cs⟩) (.slice (some ⟨g, off, none⟩) ps.length cm) vl vc vv l0 (.slice av cs.length capv) l2 l3 vb) [.slice (some ⟨g, off, none⟩) ps.length cm, vl, vc, vv, l0, .slice av cs.length capv, l2, l3, vb] kE (kX ps (K.setWas 1 ⟨mv, hv, lv, cs⟩))) := by
              refine Bun.fresh (N := W3.heap.size) (((HBb.out.drew.store 9 _ rfl).store 10 _ rfl).store 11 _ rfl) 5 rfl rfl _ (cs.length, cs.flatMap scells) ?_ (fun k hk => Nat.lt_of_lt_of_le (HBw.out k hk) HB3.out.size) 12 rfl rfl rfl
              exact (HRb.out.drew).same (fun k hk _ => ⟨by rw [heap_store_ne _ (by have := HPL.out; omega), heap_store_ne _ (by have := HPL.out; omega), heap_store_ne _ (by have := HPL.out; omega)], hk⟩)
            have HF : Hid (Fr (fun k => k = p) wb ((((wb.drew.setCell ⟨p, 9, none⟩ (.int .i64 mv)).setCell ⟨p, 10, none⟩ (.int .i64 hv)).setCell ⟨p, 11, none⟩ (.int .i64 lv)).setCell ⟨p, 12, none⟩ (.slice av cs.length capv))) := (((((Fr.drew (fun k => k = p) wb).trans (Fr.setCell (S := fun k => k = p) _ (a := ⟨p, 9, none⟩) rfl _) (fun _ h => .inl h)).trans (Fr.setCell (S := fun k => k = p) _ (a := ⟨p, 10, none⟩) rfl _) (fun _ h => .inl h)).trans (Fr.setCell (S := fun k => k = p) _ (a := ⟨p, 11, none⟩) rfl _) (fun _ h => .inl h)).trans (Fr.setCell (S := fun k => k = p) _ (a := ⟨p, 12, none⟩) rfl _) (fun _ h => .inl h))
            clear HBb
            go_region
            all_goals (
              go_wp2
              go_meet
              case rel => exact HEND.out _ ⟨_, _, _, _, _, _, _, _, _, HQ.out⟩ HF.out)
          · have q0 : wb.cell? ⟨p, 13, none⟩ = some (.int .i64 K.w2.view) := cell_at HBb.out.box 13
            have q1 : wb.cell? ⟨p, 14, none⟩ = some (.int .i64 K.w2.high) := cell_at HBb.out.box 14
            have q2 : wb.cell? ⟨p, 15, none⟩ = some (.int .i64 K.w2.locked) := cell_at HBb.out.box 15
            have q3 : wb.cell? ⟨p, 16, none⟩ = some l2 := cell_at HBb.out.box 16
            have fz := free_at HBb.out.box
            have HQ : Hid (Bun ((((wb.drew.setCell ⟨p, 13, none⟩ (.int .i64 mv)).setCell ⟨p, 14, none⟩ (.int .i64 hv)).setCell ⟨p, 15, none⟩ (.int .i64 lv)).setCell ⟨p, 16, none⟩ (.slice av cs.length capv)) p 62 (fun k => S k ∨ (Value.slice av cs.length capv).ownBlock = some k) (ccells (K.setWas 2 ⟨mv, hv, lv, cs⟩) (.slice (some ⟨g, off, none⟩) ps.length cm) vl vc vv l0 l1 (.slice av cs.length capv) l3 vb) [.slice (some ⟨g, off, none⟩) ps.length cm, vl, vc, vv, l0, l1, .slice av cs.length capv, l3, vb] kE (kX ps (K.setWas 2 ⟨mv, hv, lv, cs⟩))) := by
              refine Bun.fresh (N := W3.heap.size) (((HBb.out.drew.store 13 _ rfl).store 14 _ rfl).store 15 _ rfl) 6 rfl rfl _ (cs.length, cs.flatMap scells) ?_ (fun k hk => Nat.lt_of_lt_of_le (HBw.out k hk) HB3.out.size) 16 rfl rfl rfl
              exact (HRb.out.drew).same (fun k hk _ => ⟨by rw [heap_store_ne _ (by have := HPL.out; omega), heap_store_ne _ (by have := HPL.out; omega), heap_store_ne _ (by have := HPL.out; omega)], hk⟩)
            have HF : Hid (Fr (fun k => k = p) wb ((((wb.drew.setCell ⟨p, 13, none⟩ (.int .i64 mv)).setCell ⟨p, 14, none⟩ (.int .i64 hv)).setCell ⟨p, 15, none⟩ (.int .i64 lv)).setCell ⟨p, 16, none⟩ (.slice av cs.length capv))) := (((((Fr.drew (fun k => k = p) wb).trans (Fr.setCell (S := fun k => k = p) _ (a := ⟨p, 13, none⟩) rfl _) (fun _ h => .inl h)).trans (Fr.setCell (S := fun k => k = p) _ (a := ⟨p, 14, none⟩) rfl _) (fun _ h => .inl h)).trans (Fr.setCell (S := fun k => k = p) _ (a := ⟨p, 15, none⟩) rfl _) (fun _ h => .inl h)).trans (Fr.setCell (S := fun k => k = p) _ (a := ⟨p, 16, none⟩) rfl _) (fun _ h => .inl h))
            clear HBb
            go_region
            all_goals (
              go_wp2
              go_meet
              case rel => exact HEND.out _ ⟨_, _, _, _, _, _, _, _, _, HQ.out⟩ HF.out)
          · have q0 : wb.cell? ⟨p, 17, none⟩ = some (.int .i64 K.w3.view) := cell_at HBb.out.box 17
            have q1 : wb.cell? ⟨p, 18, none⟩ = some (.int .i64 K.w3.high) := cell_at HBb.out.box 18
            have q2 : wb.cell? ⟨p, 19, none⟩ = some (.int .i64 K.w3.locked) := cell_at HBb.out.box 19
            have q3 : wb.cell? ⟨p, 20, none⟩ = some l3 := cell_at HBb.out.box 20
            have fz := free_at HBb.out.box
            have HQ : Hid (Bun ((((wb.drew.setCell ⟨p, 17, none⟩ (.int .i64 mv)).setCell ⟨p, 18, none⟩ (.int .i64 hv)).setCell ⟨p, 19, none⟩ (.int .i64 lv)).setCell ⟨p, 20, none⟩ (.slice av cs.length capv)) p 62 (fun k => S k ∨ (Value.slice av cs.length capv).ownBlock = some k) (ccells (K.setWas 3 ⟨mv, hv, lv, cs⟩) (.slice (some ⟨g, off, none⟩) ps.length cm) vl vc vv l0 l1 l2 (.slice av cs.length capv) vb) [.slice (some ⟨g, off, none⟩) ps.length cm, vl, vc, vv, l0, l1, l2, .slice av cs.length capv, vb] kE (kX ps (K.setWas 3 ⟨mv, hv, lv, cs⟩))) := by
              refine Bun.fresh (N := W3.heap.size) (((HBb.out.drew.store 17 _ rfl).store 18 _ rfl).store 19 _ rfl) 7 rfl rfl _ (cs.length, cs.flatMap scells) ?_ (fun k hk => Nat.lt_of_lt_of_le (HBw.out k hk) HB3.out.size) 20 rfl rfl rfl
              exact (HRb.out.drew).same (fun k hk _ => ⟨by rw [heap_store_ne _ (by have := HPL.out; omega), heap_store_ne _ (by have := HPL.out; omega), heap_store_ne _ (by have := HPL.out; omega)], hk⟩)
            have HF : Hid (Fr (fun k => k = p) wb ((((wb.drew.setCell ⟨p, 17, none⟩ (.int .i64 mv)).setCell ⟨p, 18, none⟩ (.int .i64 hv)).setCell ⟨p, 19, none⟩ (.int .i64 lv)).setCell ⟨p, 20, none⟩ (.slice av cs.length capv))) := (((((Fr.drew (fun k => k = p) wb).trans (Fr.setCell (S := fun k => k = p) _ (a := ⟨p, 17, none⟩) rfl _) (fun _ h => .inl h)).trans (Fr.setCell (S := fun k => k = p) _ (a := ⟨p, 18, none⟩) rfl _) (fun _ h => .inl h)).trans (Fr.setCell (S := fun k => k = p) _ (a := ⟨p, 19, none⟩) rfl _) (fun _ h => .inl h)).trans (Fr.setCell (S := fun k => k = p) _ (a := ⟨p, 20, none⟩) rfl _) (fun _ h => .inl h))
            clear HBb
            go_region
            all_goals (
              go_wp2
              go_meet
              case rel => exact HEND.out _ ⟨_, _, _, _, _, _, _, _, _, HQ.out⟩ HF.out)
      case rest =>
        obtain ⟨hKM, hXn, hXo, hRo, hRn⟩ := hcut
        clear x0 x1 x2 x3 plb HBb HEND
        have HPX : Hid (Calls Tryd.prog 41 #[.slice lo (K.was k).log.length clo, .slice av cs.length capv] wc fun e w' => e = .returned (.bool (isPrefix (K.was k).log cs)) ∧ Below wc.heap.size wc w') := kprefix wc _ _ _ _ (K.was k).log cs hRo.out hRn.out hwl
        obtain ⟨S', hkm, hgr, hfr⟩ := hKM.out
        have HEN : Hid (∀ w', Below wc.heap.size wc w' → ∃ S', KMem w' p S' ps (K.setWas k ⟨mv, hv, lv, cs⟩) ∧ Grow S w S' ∧ Fr S w w') := fun w' hb => ⟨S', hkm.below hb, hgr, hfr.trans (Fr.of_below hb) (fun _ h => .inl h)⟩
        clear hkm hgr hfr hKM
        have HN : Hid (∀ W, Below wc.heap.size wc W → W.heap[B]? = some (.cells #[.int .i64 mv, .int .i64 hv, .int .i64 lv, .slice av cs.length capv] 58 (0, 0)) ∧ W.heap[B9]? = some (.cells #[.int .i64 (K.was k).view, .int .i64 (K.was k).high, .int .i64 (K.was k).locked, .slice lo (K.was k).log.length clo] 58 (0, 0))) := fun W hW => ⟨(hW.block _ (lt_at hXn.out)).trans hXn.out, (hW.block _ (lt_at hXo.out)).trans hXo.out⟩
        have y3 : wc.cell? ⟨B, 3, none⟩ = some (.slice av cs.length capv) := cell_at hXn.out 3
        have u3 : wc.cell? ⟨B9, 3, none⟩ = some (.slice lo (K.was k).log.length clo) := cell_at hXo.out 3
        clear hXn hXo hRo hRn
        generalize (K.was k).log = olog at *
        generalize (K.was k).view = ov at *
        generalize (K.was k).high = oh at *
        generalize (K.was k).locked = ol at *
        go_upto_region 8 with (go_at_call 41; refine HPX.out.mono ?_; rintro e w9 ⟨rfl, hb9⟩)
        obtain ⟨hn9, ho9⟩ := HN.out w9 hb9
        have y0 : w9.cell? ⟨B, 0, none⟩ = some (.int .i64 mv) := cell_at hn9 0
        have y1 : w9.cell? ⟨B, 1, none⟩ = some (.int .i64 hv) := cell_at hn9 1
        have y2 : w9.cell? ⟨B, 2, none⟩ = some (.int .i64 lv) := cell_at hn9 2
        have u0 : w9.cell? ⟨B9, 0, none⟩ = some (.int .i64 ov) := cell_at ho9 0
        have u1 : w9.cell? ⟨B9, 1, none⟩ = some (.int .i64 oh) := cell_at ho9 1
        have u2 : w9.cell? ⟨B9, 2, none⟩ = some (.int .i64 ol) := cell_at ho9 2
        have HE9 : Hid (∃ S', KMem w9 p S' ps (K.setWas k ⟨mv, hv, lv, cs⟩) ∧ Grow S w S' ∧ Fr S w w9) := HEN.out w9 hb9
        clear hn9 ho9 HN HEN hb9 HPX y3 u3
        generalize isPrefix olog cs = pf at *
        cases pf
        · have hRv : R = false := by rw [HR.out]; simp
          go_wp2
          go_ret
          exact ⟨by first | rfl | (rw [hRv]; rfl), HE9.out⟩
        · by_cases c1 : ov ≤ mv
          · by_cases c2 : oh ≤ hv
            · by_cases c3 : ol ≤ lv
              · by_cases c4 : lv ≤ hv
                · have hRv : R = true := by rw [HR.out]; simp [c1, c2, c3, c4]
                  go_wp2
                  go_ret
                  exact ⟨by first | rfl | (rw [hRv]; rfl) | (simp [c4]; done) | (rw [hRv]; simp [c4]), HE9.out⟩
                · have hRv : R = false := by rw [HR.out]; simp [c4]
                  go_wp2
                  go_ret
                  exact ⟨by first | rfl | (rw [hRv]; rfl) | (simp [c4]; done) | (rw [hRv]; simp [c4]), HE9.out⟩
              · have hRv : R = false := by rw [HR.out]; simp [c3]
                go_wp2
                go_ret
                exact ⟨by first | rfl | (rw [hRv]; rfl), HE9.out⟩
            · have hRv : R = false := by rw [HR.out]; simp [c2]
              go_wp2
              go_ret
              exact ⟨by first | rfl | (rw [hRv]; rfl), HE9.out⟩
          · have hRv : R = false := by rw [HR.out]; simp [c1]
            go_wp2
            go_ret
            exact ⟨by first | rfl | (rw [hRv]; rfl), HE9.out⟩
end Go.Proofs.YtkehpnobidendaaDoor
