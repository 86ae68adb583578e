/- The law's 'sent': a list of letters came out: its owner writes it over, appends to it, and keeps four slices of it; all of them read as the mark. The law's 'still': where all lists that came out read as their owner wrote them, it answers true; memory below is as it was. The law's 'letterList': where the program sent what the document says, it answers true, and the law has heard those letters. -/
import Derived.Test.YtkehpnobidendaaGreatDoorM14
import Derived.Deep.Cut
import Derived.Deep.QuietTactic
import Derived.BigQuiet
import Derived.Deep.RegionHeld3
import Derived.Deep.DrawnRows
namespace Go.Proofs.YtkehpnobidendaaGreatDoor
open Go.RowKit

theorem load_ltr (a : Addr) : loadVar 67 a = rowVar 67 a := rfl
theorem store_ltr (a : Addr) (v : Value) : storeVar 67 a v = rowPut 67 a v := rfl
attribute [local go_sem ↓] load_ltr store_ltr
theorem ltr_size : (Tryz.prog.info? 67).map (·.size) = some 20 := by kernel_rfl
theorem info_outs : (Tryz.prog.info? 27).map (fun i => (i.zero, i.size, i.bytes)) = some (some (.slice none 0 0), 1, 24) := by kernel_rfl
theorem lmk_one (z : Int) : ∀ u ∈ lmk z, u.oneCell' = true := by simp [lmk, Ltr.cells, Msg.cells, Msg.zero, Blk.zero, Crt.zero, Value.oneCell']
theorem put_new (z : Int) (W : World) (c0 : Array Value) (h : c0.size = 20) : (rowPut 67 ⟨W.heap.size, 0, none⟩ (.agg (lmk z).toArray)).run Tryz.prog (W.alloc (.cells c0 67)) = .ok () (W.alloc (.cells (lmk z).toArray 67)) := by
  have hl : (lmk z).length = 20 := rfl
  rw [run_rowPut (W.alloc (.cells c0 67)) W.heap.size 0 67 67 (lmk z) c0 (heap_alloc_new _ _) (by omega) ltr_size (lmk_one z)]
  have e : (c0.toList.take 0 ++ lmk z ++ c0.toList.drop (0 + (lmk z).length)).toArray = (lmk z).toArray := by
    rw [List.take_zero, List.nil_append, List.drop_of_length_le (by simp; omega), List.append_nil]
  rw [e]
  congr 1
  simp only [World.setRow, World.alloc]
  congr 1
  apply Array.ext_getElem?
  intro i
  rw [Array.getElem?_modify]
  by_cases h : W.heap.size = i
  · subst h; simp
  · have h' : ¬ i = W.heap.size := fun e => h e.symm
    simp [h, h', Array.getElem?_push]

set_option maxRecDepth 100000 in
set_option maxHeartbeats 4000000 in
theorem lsent (w : World) (p : Nat) (S R : Nat → Prop) (L : Law) (h : LMem w p S L) (v : Value) (n : Nat) (xs : List Value) (hv : Row w R 67 20 v n xs) (hR : ∀ k, R k → ¬ S k) (hn : n ≤ 1000) (hc0 : 0 ≤ L.count) (hc1 : L.count ≤ 10000000000000) (ht : L.outs.length ≤ 5800000000000) (hm : L.om.length ≤ 5800000000000) :
    Calls Tryz.prog 43 #[.pointer (some ⟨p, 0, none⟩), v] w fun e w' => e = .returned (.tuple #[]) ∧ ∃ cur, OInv w w' p S v { L with count := L.count + 1 } (-(L.count + 1)) n 4 65 cur := by
  have c8 := h.cnt
  have fz := h.fz
  have hp := h.lt
  have HM : Hid (LMem w p S L) := h
  have HV : Hid (Row w R 67 20 v n xs) := hv
  have HRS : Hid (∀ k, R k → ¬ S k) := hR
  obtain ⟨a, cap, rfl⟩ := hv.isSlice
  obtain ⟨cn, hcn⟩ : ∃ c : Nat, L.count + 1 = (c : Int) := ⟨(L.count + 1).toNat, by omega⟩
  have hcnb : cn ≤ 10000000000001 := by omega
  have hpn : ∀ (W : World) (c0 : Array Value), c0.size = 20 → (rowPut 67 ⟨W.heap.size, 0, none⟩ (.agg #[.int .i64 (-(cn : Int)), .int .i64 0, .int .i64 0, .int .i64 0, .int .i64 0, .int .i64 0, .int .u64 0, .int .u64 0, .int .u64 0, .int .u64 0, .int .u64 0, .string ⟨#[]⟩, .int .u64 0, .int .i64 0, .int .u64 0, .int .u64 0, .int .u64 0, .int .u64 0, .int .u64 0, .int .u64 0])).run Tryz.prog (W.alloc (.cells c0 67)) = .ok () (W.alloc (.cells #[.int .i64 (-(cn : Int)), .int .i64 0, .int .i64 0, .int .i64 0, .int .i64 0, .int .i64 0, .int .u64 0, .int .u64 0, .int .u64 0, .int .u64 0, .int .u64 0, .string ⟨#[]⟩, .int .u64 0, .int .i64 0, .int .u64 0, .int .u64 0, .int .u64 0, .int .u64 0, .int .u64 0, .int .u64 0] 67)) := fun W c0 h => put_new (-(cn : Int)) W c0 h
  clear h hv hR
  go_enter Tryz.func43, Tryz.ntmps43
  go_upto_region 1 with fail
  have HM1 : Hid (LMem (w.setCell ⟨p, 8, none⟩ (.int .i64 cn)) p S { L with count := L.count + 1 }) := by rw [hcn]; exact HM.out.counts cn
  have HV1 : Hid (Row (w.setCell ⟨p, 8, none⟩ (.int .i64 cn)) R 67 20 (.slice a n cap) n xs) := HV.out.move (fun k hk => ⟨heap_store_ne _ (fun e => HRS.out k (HV.out.ownS hk).1 (e ▸ HM.out.sp)), (HV.out.ownS hk).1⟩)
  have HF1 : Hid (Fr S w (w.setCell ⟨p, 8, none⟩ (.int .i64 cn))) := Fr.setCell w HM.out.sp _
  have q8 := HM1.out.cnt
  have fz1 := HM1.out.fz
  dsimp only at q8
  rw [hcn] at q8
  clear c8 fz
  generalize w.setCell ⟨p, 8, none⟩ (.int .i64 cn) = W1 at *
  go_wp2
  have HX : Hid ((W1.alloc (.cells #[.int .i64 (-(cn : Int)), .int .i64 0, .int .i64 0, .int .i64 0, .int .i64 0, .int .i64 0, .int .u64 0, .int .u64 0, .int .u64 0, .int .u64 0, .int .u64 0, .string ⟨#[]⟩, .int .u64 0, .int .i64 0, .int .u64 0, .int .u64 0, .int .u64 0, .int .u64 0, .int .u64 0, .int .u64 0] 67)).heap[W1.heap.size]? = some (.cells #[.int .i64 (-(cn : Int)), .int .i64 0, .int .i64 0, .int .i64 0, .int .i64 0, .int .i64 0, .int .u64 0, .int .u64 0, .int .u64 0, .int .u64 0, .int .u64 0, .string ⟨#[]⟩, .int .u64 0, .int .i64 0, .int .u64 0, .int .u64 0, .int .u64 0, .int .u64 0, .int .u64 0, .int .u64 0] 67 (0, 0))) := heap_alloc_new W1 _
  have HMB : Hid (LMem (W1.alloc (.cells #[.int .i64 (-(cn : Int)), .int .i64 0, .int .i64 0, .int .i64 0, .int .i64 0, .int .i64 0, .int .u64 0, .int .u64 0, .int .u64 0, .int .u64 0, .int .u64 0, .string ⟨#[]⟩, .int .u64 0, .int .i64 0, .int .u64 0, .int .u64 0, .int .u64 0, .int .u64 0, .int .u64 0, .int .u64 0] 67)) p S { L with count := L.count + 1 }) := HM1.out.below ((Below.refl _ _).alloc (Nat.le_refl _) _)
  have HVB : Hid (Row (W1.alloc (.cells #[.int .i64 (-(cn : Int)), .int .i64 0, .int .i64 0, .int .i64 0, .int .i64 0, .int .i64 0, .int .u64 0, .int .u64 0, .int .u64 0, .int .u64 0, .int .u64 0, .string ⟨#[]⟩, .int .u64 0, .int .i64 0, .int .u64 0, .int .u64 0, .int .u64 0, .int .u64 0, .int .u64 0, .int .u64 0] 67)) R 67 20 (.slice a n cap) n xs) := HV1.out.alloc _
  have HFB : Hid (Fr S w (W1.alloc (.cells #[.int .i64 (-(cn : Int)), .int .i64 0, .int .i64 0, .int .i64 0, .int .i64 0, .int .i64 0, .int .u64 0, .int .u64 0, .int .u64 0, .int .u64 0, .int .u64 0, .string ⟨#[]⟩, .int .u64 0, .int .i64 0, .int .u64 0, .int .u64 0, .int .u64 0, .int .u64 0, .int .u64 0, .int .u64 0] 67))) := HF1.out.trans (Fr.alloc S W1 _) (fun _ h => .inl h)
  have HNB : Hid (¬ (S W1.heap.size ∨ (Value.slice a n cap).ownBlock = some W1.heap.size)) := fun hk => by
    rcases hk with hk | hk
    · have := HM1.out.own _ hk; omega
    · have := (HV1.out.ownS hk).2; omega
  have hbl : W1.heap.size < (W1.alloc (.cells #[.int .i64 (-(cn : Int)), .int .i64 0, .int .i64 0, .int .i64 0, .int .i64 0, .int .i64 0, .int .u64 0, .int .u64 0, .int .u64 0, .int .u64 0, .int .u64 0, .string ⟨#[]⟩, .int .u64 0, .int .i64 0, .int .u64 0, .int .u64 0, .int .u64 0, .int .u64 0, .int .u64 0, .int .u64 0] 67)).heap.size := by simp
  have HBL : Hid (W1.heap.size < (W1.alloc (.cells #[.int .i64 (-(cn : Int)), .int .i64 0, .int .i64 0, .int .i64 0, .int .i64 0, .int .i64 0, .int .u64 0, .int .u64 0, .int .u64 0, .int .u64 0, .int .u64 0, .string ⟨#[]⟩, .int .u64 0, .int .i64 0, .int .u64 0, .int .u64 0, .int .u64 0, .int .u64 0, .int .u64 0, .int .u64 0] 67)).heap.size) := hbl
  have hsw := HF1.out.size
  clear HM1 HV1 HF1 q8 fz1 hpn hbl
  generalize W1.alloc (.cells #[.int .i64 (-(cn : Int)), .int .i64 0, .int .i64 0, .int .i64 0, .int .i64 0, .int .i64 0, .int .u64 0, .int .u64 0, .int .u64 0, .int .u64 0, .int .u64 0, .string ⟨#[]⟩, .int .u64 0, .int .i64 0, .int .u64 0, .int .u64 0, .int .u64 0, .int .u64 0, .int .u64 0, .int .u64 0] 67) = wB at *
  generalize W1.heap.size = B0 at *
  go_loopw [5] (fun i wr => ∃ j : Nat, j ≤ n ∧ i = .int .i64 j ∧ Hid (LMem wr p S { L with count := L.count + 1 }) ∧ Hid (Row wr R 67 20 (.slice a n cap) n (reps j (lmk (-(cn : Int))) ++ xs.drop (j * 20))) ∧ Hid (Fr (fun j => S j ∨ (Value.slice a n cap).ownBlock = some j) wB wr)) (fun i _ => n - (intOf i).toNat)
  case atStart => exact ⟨0, by omega, rfl, HMB, HVB, Fr.refl _ _⟩
  case round =>
    obtain ⟨j, hj, rfl, hL, hV, hF⟩ := hrel
    have hbox := (hF.out.block B0 HBL.out HNB.out).trans HX.out
    have hl : (rowVar 67 ⟨B0, 0, none⟩).run Tryz.prog wr = .ok (.agg #[.int .i64 (-(cn : Int)), .int .i64 0, .int .i64 0, .int .i64 0, .int .i64 0, .int .i64 0, .int .u64 0, .int .u64 0, .int .u64 0, .int .u64 0, .int .u64 0, .string ⟨#[]⟩, .int .u64 0, .int .i64 0, .int .u64 0, .int .u64 0, .int .u64 0, .int .u64 0, .int .u64 0, .int .u64 0]) wr := rowVar_whole wr _ _ _ _ _ _ hbox Tryz.underlying67 rfl ltr_size
    clear hbox
    by_cases hjn : j < n
    · obtain ⟨g, off, rfl, hRg, hg, hcap⟩ := hV.out.place (by omega)
      obtain ⟨W2, hst, hV2, hF2⟩ := hV.out.over (P := Tryz.prog) 67 (lmk_len _) hjn HV.out.len ltr_size (lmk_one _)
      have hst' : (rowPut 67 ⟨g, off + j * 20, none⟩ (.agg #[.int .i64 (-(cn : Int)), .int .i64 0, .int .i64 0, .int .i64 0, .int .i64 0, .int .i64 0, .int .u64 0, .int .u64 0, .int .u64 0, .int .u64 0, .int .u64 0, .string ⟨#[]⟩, .int .u64 0, .int .i64 0, .int .u64 0, .int .u64 0, .int .u64 0, .int .u64 0, .int .u64 0, .int .u64 0])).run Tryz.prog wr = .ok () W2 := hst
      have HV2 : Hid _ := hV2
      have HF2 : Hid (Fr _ wr W2) := hF2
      clear hst hV2 hF2
      go_wp2
      go_roundw
      case rel =>
        refine ⟨j + 1, by omega, by go_num, ?_, HV2.out, ?_⟩
        · exact hL.out.fr HF2.out (fun k hk e => HRS.out k (e ▸ hRg) hk)
        · exact hF.out.trans HF2.out (fun k hk => .inl (.inr (by rw [hk]; rfl)))
      case measure => simp [intOf]; omega
    · have hjn' : j = n := by omega
      subst hjn'
      have hV' := hV.out
      rw [List.drop_of_length_le (by have := HV.out.len; omega), List.append_nil] at hV'
      have HI0 : Hid (OInv wB wr p S (.slice a j cap) { L with count := L.count + 1 } (-(cn : Int)) j 0 0 (.slice a j cap)) := OInv.start hL.out hV' HRS.out hF.out
      clear hV' hL hV hF hjn hj HV HVB HMB hl
      go_wp2
      go_loopw [1, 6] (fun cur i wr => ∃ k : Nat, k ≤ 65 ∧ i = .int .i64 k ∧ Hid (OInv wB wr p S (.slice a j cap) { L with count := L.count + 1 } (-(cn : Int)) j (kept k) k cur)) (fun _ i _ => 65 - (intOf i).toNat)
      case atStart => exact ⟨0, by omega, rfl, HI0⟩
      case round =>
        clear HI0
        obtain ⟨k2, hk2, rfl, hI⟩ := hrel
        have hbox := (hI.out.fr.block B0 HBL.out HNB.out).trans HX.out
        have hl : (rowVar 67 ⟨B0, 0, none⟩).run Tryz.prog wr = .ok (.agg #[.int .i64 (-(cn : Int)), .int .i64 0, .int .i64 0, .int .i64 0, .int .i64 0, .int .i64 0, .int .u64 0, .int .u64 0, .int .u64 0, .int .u64 0, .int .u64 0, .string ⟨#[]⟩, .int .u64 0, .int .i64 0, .int .u64 0, .int .u64 0, .int .u64 0, .int .u64 0, .int .u64 0, .int .u64 0]) wr := rowVar_whole wr _ _ _ _ _ _ hbox Tryz.underlying67 rfl ltr_size
        clear hbox
        by_cases h65 : k2 < 65
        · by_cases h3 : k2 < 3
          · have HK : Hid (kept (k2 + 1) = kept k2 + 1) := kept_low k2 h3
            obtain ⟨S', T, rs, hL, hc, hg, hF, hrow, hmk, hT⟩ := hI.out
            obtain ⟨um, ul, ub, uo, un, ut, us, hB⟩ := hL
            obtain ⟨ac, cc, rfl⟩ := hrow.isSlice
            have hRT : Row wr S' 27 1 ut (L.outs ++ rs).length ((L.outs ++ rs).flatMap vcells) := hB.row 5 _ _ _ rfl rfl rfl
            have hRS : Row wr S' 3 1 us (L.om ++ List.replicate rs.length (-(cn : Int))).length ((L.om ++ List.replicate rs.length (-(cn : Int))).flatMap icells) := hB.row 6 _ _ _ rfl rfl rfl
            have hk4 := kept_le k2
            obtain ⟨tl, htl⟩ : ∃ t, t = (L.outs ++ rs).length := ⟨_, rfl⟩
            obtain ⟨ml, hml⟩ : ∃ t, t = (L.om ++ List.replicate rs.length (-(cn : Int))).length := ⟨_, rfl⟩
            rw [← htl] at hRT
            rw [← hml] at hRS
            obtain ⟨at0, ct0, rfl⟩ := hRT.isSlice
            obtain ⟨as0, cs0, rfl⟩ := hRS.isSlice
            have d6 : wr.cell? ⟨p, 6, none⟩ = some (.slice at0 tl ct0) := cell_at hB.box 6
            have fzw := free_at hB.box
            have hpw := lt_at hB.box
            have htb : tl ≤ 5800000000004 := by rw [htl, List.length_append, hc]; omega
            have hmb : ml ≤ 5800000000004 := by rw [hml, List.length_append, List.length_replicate, hc]; omega
            have HRT : Hid (Row wr S' 27 1 (.slice at0 tl ct0) tl ((L.outs ++ rs).flatMap vcells)) := hRT
            have HBW : Hid (Bun wr p 34 S' (lcells (Law.addO { L with count := L.count + 1 } rs (-(cn : Int))) um ul ub uo un (.slice at0 tl ct0) (.slice as0 ml cs0)) [um, ul, ub, uo, un, (.slice at0 tl ct0), (.slice as0 ml cs0)] lE (lX (Law.addO { L with count := L.count + 1 } rs (-(cn : Int))))) := hB
            have HALL : Hid (rs.length = kept k2 ∧ Grow S wB S' ∧ Fr (fun i => S i ∨ (Value.slice a j cap).ownBlock = some i) wB wr ∧ Row wr T 67 20 (.slice ac (j + k2) cc) (j + k2) (reps (j + k2) (lmk (-(cn : Int)))) ∧ (∀ r ∈ rs, Marked wr T 67 (lmk (-(cn : Int))) r (.slice ac (j + k2) cc)) ∧ (∀ i, T i → ((Value.slice a j cap).ownBlock = some i ∨ wB.heap.size ≤ i) ∧ ¬ S' i ∧ i < wr.heap.size)) := ⟨hc, hg, hF, hrow, hmk, hT⟩
            have HTL : Hid (tl = (L.outs ++ rs).length) := htl
            have HML : Hid (ml = (L.om ++ List.replicate rs.length (-(cn : Int))).length) := hml
            clear hB hRT hRS hc hg hF hrow hmk hT hI htl hml hk4
            go_wp2_with (at_builtin; refine wpList_append_row rfl (.tmp 45) (.tmp 47) 31 rfl S' 27 (.slice none 0 0) 1 24 Tryz.underlying31 info_outs rfl (.slice at0 tl ct0) tl ((L.outs ++ rs).flatMap vcells) rfl (HRT.out.alloc _) ⟨wr.heap.size, 0, none⟩ 1 1 [.slice ac (j + k2) cc] rfl rfl one_cell (by simp [Value.oneCell']) (by omega) (by unfold maxLen; omega) (by omega) ?_; intro v1 w1 r1 f1; obtain ⟨a1, cp1, rfl⟩ := r1.isSlice; have hb1 := (HBW.out.alloc _).after 5 rfl f1; have q6 : w1.cell? ⟨p, 6, none⟩ = some (.slice at0 tl ct0) := cell_at hb1 6; have fz1 := free_at hb1; have R1 : Hid _ := r1; have F1 : Hid (Fr _ _ w1) := f1; have B1 : Hid _ := (HBW.out.alloc _).put (C' := lcells (Law.addO { L with count := L.count + 1 } rs (-(cn : Int))) um ul ub uo un (.slice a1 (tl + 1) cp1) (.slice as0 ml cs0)) (V' := [um, ul, ub, uo, un, (.slice a1 (tl + 1) cp1), (.slice as0 ml cs0)]) 5 rfl rfl _ (tl + 1, (L.outs ++ rs).flatMap vcells ++ [.slice ac (j + k2) cc]) r1 f1 6 rfl rfl rfl; have rs2 : Row (w1.setCell ⟨p, 6, none⟩ (.slice a1 (tl + 1) cp1)) (fun i => S' i ∨ (Value.slice a1 (tl + 1) cp1).ownBlock = some i) 3 1 (.slice as0 ml cs0) (L.om ++ List.replicate rs.length (-(cn : Int))).length ((L.om ++ List.replicate rs.length (-(cn : Int))).flatMap icells) := B1.out.row 6 _ _ _ rfl rfl rfl; rw [← HML.out] at rs2; have RS2 : Hid _ := rs2; clear hb1 r1 f1 rs2)
            have b2 := B1.out.box
            have c7 : ∀ o, ((w1.setCell ⟨p, 6, none⟩ (.slice a1 (tl + 1) cp1)).alloc o).cell? ⟨p, 7, none⟩ = some (.slice as0 ml cs0) := fun o => cell_at (B1.out.alloc o).box 7
            have c7' : (w1.setCell ⟨p, 6, none⟩ (.slice a1 (tl + 1) cp1)).cell? ⟨p, 7, none⟩ = some (.slice as0 ml cs0) := cell_at b2 7
            have c8' : (w1.setCell ⟨p, 6, none⟩ (.slice a1 (tl + 1) cp1)).cell? ⟨p, 8, none⟩ = some (.int .i64 cn) := (cell_at b2 8).trans (by rw [← hcn]; rfl)
            have hB1f := HALL.out.2.2.1.trans ((HBW.out.alloc (.cells #[Value.slice ac (j + k2) cc] 27)).frPut (Fr.alloc S' wr _) 5 rfl F1.out 6 (.slice a1 (tl + 1) cp1)) (fun i hi => (HALL.out.2.1 i hi).imp .inl id)
            have HB1F : Hid _ := hB1f
            clear hB1f b2 q6 fz1 hl
            generalize hW2 : w1.setCell ⟨p, 6, none⟩ (.slice a1 (tl + 1) cp1) = W2 at *
            have fz2 := free_at B1.out.box
            have hwr : IntKind.i64.wrap (-(cn : Int)) = -(cn : Int) := by rw [IntKind.wrap_i64]; omega
            go_region_law (refine step_append_row rfl (.tmp 55) (.tmp 61) 32 rfl _ 3 (.int .i64 0) 1 8 Tryz.underlying32 info_int rfl (.slice as0 ml cs0) ml ((L.om ++ List.replicate rs.length (-(cn : Int))).flatMap icells) (by simp [Act.eval]) ((RS2.out.alloc _).drew) ⟨W2.heap.size, 0, none⟩ 1 1 [.int .i64 (-(cn : Int))] (by simp [Act.eval]) rfl (new_cells _ _ _ rfl) (by simp [Value.oneCell']) (by omega) (by unfold maxLen; omega) (by omega) ?_; intro v2 w2 r2 f2; obtain ⟨a2, cp2, rfl⟩ := r2.isSlice; have hb2 := ((B1.out.alloc _).drew).after 6 rfl f2; have q7 : w2.cell? ⟨p, 7, none⟩ = some (.slice as0 ml cs0) := cell_at hb2 7; have fz3 := free_at hb2; clear hb2; have R2 : Hid _ := r2; have F2 : Hid (Fr _ _ w2) := f2; clear r2 f2)
            all_goals (
              subst hW2
              have I3 : Hid (OInv wB (w2.setCell ⟨p, 7, none⟩ (.slice a2 (ml + 1) cp2)) p S (.slice a j cap) { L with count := L.count + 1 } (-(cn : Int)) j (kept k2 + 1) k2 (.slice ac (j + k2) cc)) := OInv.keep HTL.out HML.out HBW.out HALL.out.1 HALL.out.2.1 HALL.out.2.2.1 HALL.out.2.2.2.1 HALL.out.2.2.2.2.1 HALL.out.2.2.2.2.2 R1.out F1.out R2.out F2.out
              clear R2 F2 q7 fz3 fz2 HB1F c7 c7' c8' RS2 B1 R1 F1 HML HTL HALL HBW HRT d6 fzw
              generalize w2.setCell ⟨p, 7, none⟩ (.slice a2 (ml + 1) cp2) = w3 at *
              have hbox := (I3.out.fr.block B0 HBL.out HNB.out).trans HX.out
              have hl : (rowVar 67 ⟨B0, 0, none⟩).run Tryz.prog w3 = .ok (.agg #[.int .i64 (-(cn : Int)), .int .i64 0, .int .i64 0, .int .i64 0, .int .i64 0, .int .i64 0, .int .u64 0, .int .u64 0, .int .u64 0, .int .u64 0, .int .u64 0, .string ⟨#[]⟩, .int .u64 0, .int .i64 0, .int .u64 0, .int .u64 0, .int .u64 0, .int .u64 0, .int .u64 0, .int .u64 0]) w3 := rowVar_whole w3 _ _ _ _ _ _ hbox Tryz.underlying67 rfl ltr_size
              clear hbox
              obtain ⟨T3, row3⟩ := I3.out.row
              go_wp2_with (at_builtin; refine wpList_append_two rfl (.tmp 65) (.tmp 67) 27 rfl T3 67 _ 20 168 Tryz.underlying27 info_letter rfl (.slice ac (j + k2) cc) (j + k2) (reps (j + k2) (lmk (-(cn : Int)))) rfl (row3.alloc _) ⟨w3.heap.size, 0, none⟩ 1 1 (lmk (-(cn : Int))) rfl rfl (new_cells _ _ _ rfl) (lmk_one _) (by omega) (by unfold maxLen; omega) (by omega) ?_; intro v1 w4 r1 f1 g1; obtain ⟨a4, cp4, rfl⟩ := r1.isSlice; have R4 : Hid _ := r1; have F4 : Hid (Fr _ _ w4) := f1; have G4 : Hid _ := g1; clear r1 f1 g1)
              go_roundw
              case rel => exact ⟨k2 + 1, by omega, by go_num, by rw [HK.out]; exact I3.out.more R4.out F4.out G4.out⟩
              case measure => simp [intOf]; omega)

          · by_cases h64 : k2 = 64
            · have HK : Hid (kept (k2 + 1) = kept k2 + 1) := (by subst h64; rfl : kept (k2 + 1) = kept k2 + 1)
              have hz : ((k2 : Int) == 64) = true := by simp; omega
              clear h64
              obtain ⟨S', T, rs, hL, hc, hg, hF, hrow, hmk, hT⟩ := hI.out
              obtain ⟨um, ul, ub, uo, un, ut, us, hB⟩ := hL
              obtain ⟨ac, cc, rfl⟩ := hrow.isSlice
              have hRT : Row wr S' 27 1 ut (L.outs ++ rs).length ((L.outs ++ rs).flatMap vcells) := hB.row 5 _ _ _ rfl rfl rfl
              have hRS : Row wr S' 3 1 us (L.om ++ List.replicate rs.length (-(cn : Int))).length ((L.om ++ List.replicate rs.length (-(cn : Int))).flatMap icells) := hB.row 6 _ _ _ rfl rfl rfl
              have hk4 := kept_le k2
              obtain ⟨tl, htl⟩ : ∃ t, t = (L.outs ++ rs).length := ⟨_, rfl⟩
              obtain ⟨ml, hml⟩ : ∃ t, t = (L.om ++ List.replicate rs.length (-(cn : Int))).length := ⟨_, rfl⟩
              rw [← htl] at hRT
              rw [← hml] at hRS
              obtain ⟨at0, ct0, rfl⟩ := hRT.isSlice
              obtain ⟨as0, cs0, rfl⟩ := hRS.isSlice
              have d6 : wr.cell? ⟨p, 6, none⟩ = some (.slice at0 tl ct0) := cell_at hB.box 6
              have fzw := free_at hB.box
              have hpw := lt_at hB.box
              have htb : tl ≤ 5800000000004 := by rw [htl, List.length_append, hc]; omega
              have hmb : ml ≤ 5800000000004 := by rw [hml, List.length_append, List.length_replicate, hc]; omega
              have HRT : Hid (Row wr S' 27 1 (.slice at0 tl ct0) tl ((L.outs ++ rs).flatMap vcells)) := hRT
              have HBW : Hid (Bun wr p 34 S' (lcells (Law.addO { L with count := L.count + 1 } rs (-(cn : Int))) um ul ub uo un (.slice at0 tl ct0) (.slice as0 ml cs0)) [um, ul, ub, uo, un, (.slice at0 tl ct0), (.slice as0 ml cs0)] lE (lX (Law.addO { L with count := L.count + 1 } rs (-(cn : Int))))) := hB
              have HALL : Hid (rs.length = kept k2 ∧ Grow S wB S' ∧ Fr (fun i => S i ∨ (Value.slice a j cap).ownBlock = some i) wB wr ∧ Row wr T 67 20 (.slice ac (j + k2) cc) (j + k2) (reps (j + k2) (lmk (-(cn : Int)))) ∧ (∀ r ∈ rs, Marked wr T 67 (lmk (-(cn : Int))) r (.slice ac (j + k2) cc)) ∧ (∀ i, T i → ((Value.slice a j cap).ownBlock = some i ∨ wB.heap.size ≤ i) ∧ ¬ S' i ∧ i < wr.heap.size)) := ⟨hc, hg, hF, hrow, hmk, hT⟩
              have HTL : Hid (tl = (L.outs ++ rs).length) := htl
              have HML : Hid (ml = (L.om ++ List.replicate rs.length (-(cn : Int))).length) := hml
              clear hB hRT hRS hc hg hF hrow hmk hT hI htl hml hk4
              go_wp2_with (at_builtin; refine wpList_append_row rfl (.tmp 45) (.tmp 47) 31 rfl S' 27 (.slice none 0 0) 1 24 Tryz.underlying31 info_outs rfl (.slice at0 tl ct0) tl ((L.outs ++ rs).flatMap vcells) rfl (HRT.out.alloc _) ⟨wr.heap.size, 0, none⟩ 1 1 [.slice ac (j + k2) cc] rfl rfl one_cell (by simp [Value.oneCell']) (by omega) (by unfold maxLen; omega) (by omega) ?_; intro v1 w1 r1 f1; obtain ⟨a1, cp1, rfl⟩ := r1.isSlice; have hb1 := (HBW.out.alloc _).after 5 rfl f1; have q6 : w1.cell? ⟨p, 6, none⟩ = some (.slice at0 tl ct0) := cell_at hb1 6; have fz1 := free_at hb1; have R1 : Hid _ := r1; have F1 : Hid (Fr _ _ w1) := f1; have B1 : Hid _ := (HBW.out.alloc _).put (C' := lcells (Law.addO { L with count := L.count + 1 } rs (-(cn : Int))) um ul ub uo un (.slice a1 (tl + 1) cp1) (.slice as0 ml cs0)) (V' := [um, ul, ub, uo, un, (.slice a1 (tl + 1) cp1), (.slice as0 ml cs0)]) 5 rfl rfl _ (tl + 1, (L.outs ++ rs).flatMap vcells ++ [.slice ac (j + k2) cc]) r1 f1 6 rfl rfl rfl; have rs2 : Row (w1.setCell ⟨p, 6, none⟩ (.slice a1 (tl + 1) cp1)) (fun i => S' i ∨ (Value.slice a1 (tl + 1) cp1).ownBlock = some i) 3 1 (.slice as0 ml cs0) (L.om ++ List.replicate rs.length (-(cn : Int))).length ((L.om ++ List.replicate rs.length (-(cn : Int))).flatMap icells) := B1.out.row 6 _ _ _ rfl rfl rfl; rw [← HML.out] at rs2; have RS2 : Hid _ := rs2; clear hb1 r1 f1 rs2)
              have b2 := B1.out.box
              have c7 : ∀ o, ((w1.setCell ⟨p, 6, none⟩ (.slice a1 (tl + 1) cp1)).alloc o).cell? ⟨p, 7, none⟩ = some (.slice as0 ml cs0) := fun o => cell_at (B1.out.alloc o).box 7
              have c7' : (w1.setCell ⟨p, 6, none⟩ (.slice a1 (tl + 1) cp1)).cell? ⟨p, 7, none⟩ = some (.slice as0 ml cs0) := cell_at b2 7
              have c8' : (w1.setCell ⟨p, 6, none⟩ (.slice a1 (tl + 1) cp1)).cell? ⟨p, 8, none⟩ = some (.int .i64 cn) := (cell_at b2 8).trans (by rw [← hcn]; rfl)
              have hB1f := HALL.out.2.2.1.trans ((HBW.out.alloc (.cells #[Value.slice ac (j + k2) cc] 27)).frPut (Fr.alloc S' wr _) 5 rfl F1.out 6 (.slice a1 (tl + 1) cp1)) (fun i hi => (HALL.out.2.1 i hi).imp .inl id)
              have HB1F : Hid _ := hB1f
              clear hB1f b2 q6 fz1 hl
              generalize hW2 : w1.setCell ⟨p, 6, none⟩ (.slice a1 (tl + 1) cp1) = W2 at *
              have fz2 := free_at B1.out.box
              have hwr : IntKind.i64.wrap (-(cn : Int)) = -(cn : Int) := by rw [IntKind.wrap_i64]; omega
              go_region_law (refine step_append_row rfl (.tmp 55) (.tmp 61) 32 rfl _ 3 (.int .i64 0) 1 8 Tryz.underlying32 info_int rfl (.slice as0 ml cs0) ml ((L.om ++ List.replicate rs.length (-(cn : Int))).flatMap icells) (by simp [Act.eval]) ((RS2.out.alloc _).drew) ⟨W2.heap.size, 0, none⟩ 1 1 [.int .i64 (-(cn : Int))] (by simp [Act.eval]) rfl (new_cells _ _ _ rfl) (by simp [Value.oneCell']) (by omega) (by unfold maxLen; omega) (by omega) ?_; intro v2 w2 r2 f2; obtain ⟨a2, cp2, rfl⟩ := r2.isSlice; have hb2 := ((B1.out.alloc _).drew).after 6 rfl f2; have q7 : w2.cell? ⟨p, 7, none⟩ = some (.slice as0 ml cs0) := cell_at hb2 7; have fz3 := free_at hb2; clear hb2; have R2 : Hid _ := r2; have F2 : Hid (Fr _ _ w2) := f2; clear r2 f2)
              all_goals (
                subst hW2
                have I3 : Hid (OInv wB (w2.setCell ⟨p, 7, none⟩ (.slice a2 (ml + 1) cp2)) p S (.slice a j cap) { L with count := L.count + 1 } (-(cn : Int)) j (kept k2 + 1) k2 (.slice ac (j + k2) cc)) := OInv.keep HTL.out HML.out HBW.out HALL.out.1 HALL.out.2.1 HALL.out.2.2.1 HALL.out.2.2.2.1 HALL.out.2.2.2.2.1 HALL.out.2.2.2.2.2 R1.out F1.out R2.out F2.out
                clear R2 F2 q7 fz3 fz2 HB1F c7 c7' c8' RS2 B1 R1 F1 HML HTL HALL HBW HRT d6 fzw
                generalize w2.setCell ⟨p, 7, none⟩ (.slice a2 (ml + 1) cp2) = w3 at *
                have hbox := (I3.out.fr.block B0 HBL.out HNB.out).trans HX.out
                have hl : (rowVar 67 ⟨B0, 0, none⟩).run Tryz.prog w3 = .ok (.agg #[.int .i64 (-(cn : Int)), .int .i64 0, .int .i64 0, .int .i64 0, .int .i64 0, .int .i64 0, .int .u64 0, .int .u64 0, .int .u64 0, .int .u64 0, .int .u64 0, .string ⟨#[]⟩, .int .u64 0, .int .i64 0, .int .u64 0, .int .u64 0, .int .u64 0, .int .u64 0, .int .u64 0, .int .u64 0]) w3 := rowVar_whole w3 _ _ _ _ _ _ hbox Tryz.underlying67 rfl ltr_size
                clear hbox
                obtain ⟨T3, row3⟩ := I3.out.row
                go_wp2_with (at_builtin; refine wpList_append_two rfl (.tmp 65) (.tmp 67) 27 rfl T3 67 _ 20 168 Tryz.underlying27 info_letter rfl (.slice ac (j + k2) cc) (j + k2) (reps (j + k2) (lmk (-(cn : Int)))) rfl (row3.alloc _) ⟨w3.heap.size, 0, none⟩ 1 1 (lmk (-(cn : Int))) rfl rfl (new_cells _ _ _ rfl) (lmk_one _) (by omega) (by unfold maxLen; omega) (by omega) ?_; intro v1 w4 r1 f1 g1; obtain ⟨a4, cp4, rfl⟩ := r1.isSlice; have R4 : Hid _ := r1; have F4 : Hid (Fr _ _ w4) := f1; have G4 : Hid _ := g1; clear r1 f1 g1)
                go_roundw
                case rel => exact ⟨k2 + 1, by omega, by go_num, by rw [HK.out]; exact I3.out.more R4.out F4.out G4.out⟩
                case measure => simp [intOf]; omega)
            · have HK : Hid (kept (k2 + 1) = kept k2) := kept_same k2 (by omega) (by omega)
              have hz : ((k2 : Int) == 64) = false := by simp; omega
              obtain ⟨T, hrow⟩ := hI.out.row
              obtain ⟨ac, cc, rfl⟩ := hrow.isSlice
              go_wp2_with (at_builtin; refine wpList_append_two rfl (.tmp 65) (.tmp 67) 27 rfl T 67 _ 20 168 Tryz.underlying27 info_letter rfl (.slice ac (j + k2) cc) (j + k2) (reps (j + k2) (lmk (-(cn : Int)))) rfl (hrow.alloc _) ⟨wr.heap.size, 0, none⟩ 1 1 (lmk (-(cn : Int))) rfl rfl (new_cells _ _ _ rfl) (lmk_one _) (by omega) (by unfold maxLen; omega) (by omega) ?_; intro v1 w1 r1 f1 g1; obtain ⟨a1, cp1, rfl⟩ := r1.isSlice; have R1 : Hid _ := r1; have F1 : Hid (Fr _ _ w1) := f1; have G1 : Hid _ := g1; clear r1 f1 g1)
              go_roundw
              case rel => exact ⟨k2 + 1, by omega, by go_num, by rw [HK.out]; exact hI.out.more R1.out F1.out G1.out⟩
              case measure => simp [intOf]; omega
        · have hk65 : k2 = 65 := by omega
          subst hk65
          go_wp2
          go_end0
          have hfin := hI.out.since HFB.out
          rw [← hcn] at hfin
          exact ⟨rfl, _, hfin⟩
end Go.Proofs.YtkehpnobidendaaGreatDoor

namespace Go.Proofs.YtkehpnobidendaaGreatDoor
open Go.RowKit
attribute [local go_sem ↓] load_ltr store_ltr

/-- All lists that came out read as their owner wrote them. -/
structure Kept (w : World) (T : Nat → Prop) (L : Law) : Prop where
  lt : L.texts.length = L.tm.length
  lo : L.outs.length = L.om.length
  t : ∀ (i : Nat) (h : i < L.texts.length) (h' : i < L.tm.length), ∃ n, Row w T 9 1 L.texts[i] n (reps n [.string L.tm[i]])
  o : ∀ (i : Nat) (h : i < L.outs.length) (h' : i < L.om.length), ∃ n, Row w T 67 20 L.outs[i] n (reps n (lmk L.om[i]))
theorem reps_get (C : List Value) (n i j : Nat) (hi : i < n) (hj : j < C.length) : (reps n C)[i * C.length + j]? = C[j]? := by
  have h := flat_get (f := fun _ : Unit => C) (s := C.length) (fun _ => rfl) (List.replicate n ()) i j (by simpa using hi) hj
  have e : (List.replicate n ()).flatMap (fun _ => C) = reps n C := by simp [reps, List.flatMap]
  rw [e] at h
  exact h
theorem vcells_len (v : Value) : (vcells v).length = 1 := rfl
/-- What still reads of the record. -/
theorem LMem.txt {w : World} {p : Nat} {S : Nat → Prop} {L : Law} (h : LMem w p S L) : ∃ at0 ct as0 cs ao co an cn, w.cell? ⟨p, 4, none⟩ = some (.slice at0 L.texts.length ct) ∧ Row w S 30 1 (.slice at0 L.texts.length ct) L.texts.length (L.texts.flatMap vcells) ∧ w.cell? ⟨p, 5, none⟩ = some (.slice as0 L.tm.length cs) ∧ Row w S 9 1 (.slice as0 L.tm.length cs) L.tm.length (L.tm.flatMap scells) ∧
    w.cell? ⟨p, 6, none⟩ = some (.slice ao L.outs.length co) ∧ Row w S 27 1 (.slice ao L.outs.length co) L.outs.length (L.outs.flatMap vcells) ∧ w.cell? ⟨p, 7, none⟩ = some (.slice an L.om.length cn) ∧ Row w S 3 1 (.slice an L.om.length cn) L.om.length (L.om.flatMap icells) := by
  obtain ⟨vm, vl, vb, vt, vs, vo, vn, h⟩ := h
  have r3 : Row w S 30 1 vt L.texts.length (L.texts.flatMap vcells) := h.row 3 _ _ _ rfl rfl rfl
  have r4 : Row w S 9 1 vs L.tm.length (L.tm.flatMap scells) := h.row 4 _ _ _ rfl rfl rfl
  have r5 : Row w S 27 1 vo L.outs.length (L.outs.flatMap vcells) := h.row 5 _ _ _ rfl rfl rfl
  have r6 : Row w S 3 1 vn L.om.length (L.om.flatMap icells) := h.row 6 _ _ _ rfl rfl rfl
  obtain ⟨a3, c3, rfl⟩ := r3.isSlice
  obtain ⟨a4, c4, rfl⟩ := r4.isSlice
  obtain ⟨a5, c5, rfl⟩ := r5.isSlice
  obtain ⟨a6, c6, rfl⟩ := r6.isSlice
  exact ⟨_, _, _, _, _, _, _, _, cell_at h.box 4, r3, cell_at h.box 5, r4, cell_at h.box 6, r5, cell_at h.box 7, r6⟩

set_option maxRecDepth 100000 in
set_option maxHeartbeats 4000000 in
theorem lstill (w : World) (p : Nat) (S T : Nat → Prop) (L : Law) (h : LMem w p S L) (hk : Kept w T L) :
    Calls Tryz.prog 8 #[.pointer (some ⟨p, 0, none⟩)] w fun e w' => e = .returned (.bool true) ∧ Below w.heap.size w w' := by
  have hp := h.lt
  obtain ⟨at0, ct, as0, cs, ao, co, an, cn, d4, r4, d5, r5, d6, r6, d7, r7⟩ := h.txt
  have HK : Hid (Kept w T L) := hk
  have R4 : Hid (Row w S 30 1 (.slice at0 L.texts.length ct) L.texts.length (L.texts.flatMap vcells)) := r4
  have R5 : Hid (Row w S 9 1 (.slice as0 L.tm.length cs) L.tm.length (L.tm.flatMap scells)) := r5
  have R6 : Hid (Row w S 27 1 (.slice ao L.outs.length co) L.outs.length (L.outs.flatMap vcells)) := r6
  have R7 : Hid (Row w S 3 1 (.slice an L.om.length cn) L.om.length (L.om.flatMap icells)) := r7
  have l4 := r4.le
  have l6 := r6.le
  have HLT : Hid (L.texts.length = L.tm.length) := hk.lt
  have HLO : Hid (L.outs.length = L.om.length) := hk.lo
  clear r4 r5 r6 r7 hk h
  go_enter Tryz.func8, Tryz.ntmps8
  go_wp2
  go_loopw [3] (fun i wr => ∃ k : Nat, k ≤ L.texts.length ∧ i = .int .i64 k ∧ Hid (Below w.heap.size w wr)) (fun i _ => L.texts.length - (intOf i).toNat)
  case atStart => exact ⟨0, by omega, rfl, Below.refl _ _⟩
  case round =>
    obtain ⟨k, hk, rfl, hb⟩ := hrel
    have e4 := (hb.out.cell (p := ⟨p, 4, none⟩) hp).trans d4
    by_cases hlt : k < L.texts.length
    · have hlt' : k < L.tm.length := by have := HLT.out; omega
      obtain ⟨g4, o4, rfl, _, hg4, hc4⟩ := R4.out.place (by omega)
      obtain ⟨g5, o5, rfl, _, hg5, hc5⟩ := R5.out.place (by omega)
      obtain ⟨n, hrow⟩ := HK.out.t k hlt hlt'
      obtain ⟨x, hx⟩ : ∃ x, x = L.tm[k] := ⟨_, rfl⟩
      obtain ⟨ar, cr, hv⟩ := hrow.isSlice
      have f4 : w.cell? ⟨g4, o4 + k, none⟩ = some (.slice ar n cr) := by have := R4.out.elem vcells_len k 0 hlt (by omega); rw [hv] at this; simpa [vcells] using this
      have f5 : w.cell? ⟨g5, o5 + k, none⟩ = some (.string x) := by have := R5.out.elem scells_len k 0 hlt' (by omega); rw [← hx] at this; simpa [scells] using this
      rw [hv, ← hx] at hrow
      have HROW : Hid (Row w T 9 1 (.slice ar n cr) n (reps n [.string x])) := hrow
      have ln := hrow.le
      clear hrow hv hx
      have e4' := (hb.out.cell (p := ⟨g4, o4 + k, none⟩) hg4).trans f4
      go_wp2
      go_loopw [4] (fun i wr => ∃ j : Nat, j ≤ n ∧ i = .int .i64 j ∧ Hid (Below w.heap.size w wr)) (fun i _ => n - (intOf i).toNat)
      case atStart => exact ⟨0, by omega, rfl, hb⟩
      case round =>
        clear hb e4 e4'
        obtain ⟨j, hj, rfl, hb⟩ := hrel
        have e4 := (hb.out.cell (p := ⟨p, 4, none⟩) hp).trans d4
        have e4' := (hb.out.cell (p := ⟨g4, o4 + k, none⟩) hg4).trans f4
        have e5 := (hb.out.cell (p := ⟨p, 5, none⟩) hp).trans d5
        have e5' := (hb.out.cell (p := ⟨g5, o5 + k, none⟩) hg5).trans f5
        by_cases hjn : j < n
        · obtain ⟨gr, og, rfl, _, hgr, hcr⟩ := HROW.out.place (by omega)
          have er := (hb.out.cell (p := ⟨gr, og + j, none⟩) hgr).trans (by have h1 := HROW.out.cellAt j (by omega); have h2 := reps_get [.string x] n j 0 hjn (by simp); simp at h1 h2; rw [h1, h2] : w.cell? ⟨gr, og + j, none⟩ = some (.string x))
          have i1 : (0 : Int) ≤ (j : Int) := by omega
          have i2 : (j : Int) < (n : Int) := by omega
          have i3 : (k : Int) < (L.texts.length : Int) := by omega
          have i4 : (k : Int) < (L.tm.length : Int) := by omega
          go_wp2
          go_quiet (fail)
          go_wp2
          go_roundw
          case rel => exact ⟨j + 1, by omega, by go_num, ⟨hb.out.os, hb.out.tape, hb.out.output, hb.out.size, hb.out.block⟩⟩
          case measure => simp [intOf]; omega
        · go_wp2
          go_roundw
          case rel => exact ⟨k + 1, by omega, by go_num, hb⟩
          case measure => simp [intOf]; omega
    · go_wp2
      clear d4 d5 e4 hlt hk R4 R5
      go_loopw [5] (fun i wr => ∃ k : Nat, k ≤ L.outs.length ∧ i = .int .i64 k ∧ Hid (Below w.heap.size w wr)) (fun i _ => L.outs.length - (intOf i).toNat)
      case atStart => exact ⟨0, by omega, rfl, hb⟩
      case round =>
        clear hb
        obtain ⟨k, hk, rfl, hb⟩ := hrel
        have e6 := (hb.out.cell (p := ⟨p, 6, none⟩) hp).trans d6
        have e7 := (hb.out.cell (p := ⟨p, 7, none⟩) hp).trans d7
        by_cases hlt : k < L.outs.length
        · have hlt' : k < L.om.length := by have := HLO.out; omega
          obtain ⟨g6, o6, rfl, _, hg6, hc6⟩ := R6.out.place (by omega)
          obtain ⟨g7, o7, rfl, _, hg7, hc7⟩ := R7.out.place (by omega)
          obtain ⟨n, hrow⟩ := HK.out.o k hlt hlt'
          obtain ⟨x, hx⟩ : ∃ x, x = L.om[k] := ⟨_, rfl⟩
          obtain ⟨ar, cr, hv⟩ := hrow.isSlice
          have f6 : w.cell? ⟨g6, o6 + k, none⟩ = some (.slice ar n cr) := by have := R6.out.elem vcells_len k 0 hlt (by omega); rw [hv] at this; simpa [vcells] using this
          have f7 : w.cell? ⟨g7, o7 + k, none⟩ = some (.int .i64 x) := by have := R7.out.elem icells_len k 0 hlt' (by omega); rw [← hx] at this; simpa [icells] using this
          rw [hv, ← hx] at hrow
          have HROW : Hid (Row w T 67 20 (.slice ar n cr) n (reps n (lmk x))) := hrow
          have ln := hrow.le
          clear hrow hv hx
          have e7' := (hb.out.cell (p := ⟨g7, o7 + k, none⟩) hg7).trans f7
          have hpn : ∀ (W : World) (c0 : Array Value), c0.size = 20 → (rowPut 67 ⟨W.heap.size, 0, none⟩ (.agg #[.int .i64 x, .int .i64 0, .int .i64 0, .int .i64 0, .int .i64 0, .int .i64 0, .int .u64 0, .int .u64 0, .int .u64 0, .int .u64 0, .int .u64 0, .string ⟨#[]⟩, .int .u64 0, .int .i64 0, .int .u64 0, .int .u64 0, .int .u64 0, .int .u64 0, .int .u64 0, .int .u64 0])).run Tryz.prog (W.alloc (.cells c0 67)) = .ok () (W.alloc (.cells #[.int .i64 x, .int .i64 0, .int .i64 0, .int .i64 0, .int .i64 0, .int .i64 0, .int .u64 0, .int .u64 0, .int .u64 0, .int .u64 0, .int .u64 0, .string ⟨#[]⟩, .int .u64 0, .int .i64 0, .int .u64 0, .int .u64 0, .int .u64 0, .int .u64 0, .int .u64 0, .int .u64 0] 67)) := fun W c0 h => put_new x W c0 h
          go_wp2
          have HXB : Hid ((wr.alloc (.cells #[.int .i64 x, .int .i64 0, .int .i64 0, .int .i64 0, .int .i64 0, .int .i64 0, .int .u64 0, .int .u64 0, .int .u64 0, .int .u64 0, .int .u64 0, .string ⟨#[]⟩, .int .u64 0, .int .i64 0, .int .u64 0, .int .u64 0, .int .u64 0, .int .u64 0, .int .u64 0, .int .u64 0] 67)).heap[wr.heap.size]? = some (.cells #[.int .i64 x, .int .i64 0, .int .i64 0, .int .i64 0, .int .i64 0, .int .i64 0, .int .u64 0, .int .u64 0, .int .u64 0, .int .u64 0, .int .u64 0, .string ⟨#[]⟩, .int .u64 0, .int .i64 0, .int .u64 0, .int .u64 0, .int .u64 0, .int .u64 0, .int .u64 0, .int .u64 0] 67 (0, 0))) := heap_alloc_new wr _
          have HBB : Hid (Below w.heap.size w (wr.alloc (.cells #[.int .i64 x, .int .i64 0, .int .i64 0, .int .i64 0, .int .i64 0, .int .i64 0, .int .u64 0, .int .u64 0, .int .u64 0, .int .u64 0, .int .u64 0, .string ⟨#[]⟩, .int .u64 0, .int .i64 0, .int .u64 0, .int .u64 0, .int .u64 0, .int .u64 0, .int .u64 0, .int .u64 0] 67))) := bnext hb.out ((Below.refl _ _).alloc (Nat.le_refl _) _)
          clear hpn e6 e7 e7' hb
          generalize wr.alloc (.cells #[.int .i64 x, .int .i64 0, .int .i64 0, .int .i64 0, .int .i64 0, .int .i64 0, .int .u64 0, .int .u64 0, .int .u64 0, .int .u64 0, .int .u64 0, .string ⟨#[]⟩, .int .u64 0, .int .i64 0, .int .u64 0, .int .u64 0, .int .u64 0, .int .u64 0, .int .u64 0, .int .u64 0] 67) = wB at *
          generalize wr.heap.size = B0 at *
          go_loopw [7] (fun i wr => ∃ j : Nat, j ≤ n ∧ i = .int .i64 j ∧ Hid (Below wB.heap.size wB wr)) (fun i _ => n - (intOf i).toNat)
          case atStart => exact ⟨0, by omega, rfl, Below.refl _ _⟩
          case round =>
            obtain ⟨j, hj, rfl, hb⟩ := hrel
            have hbw := bnext HBB.out hb.out
            have e6 := (hbw.cell (p := ⟨p, 6, none⟩) hp).trans d6
            have e6' := (hbw.cell (p := ⟨g6, o6 + k, none⟩) hg6).trans f6
            clear hbw
            by_cases hjn : j < n
            · obtain ⟨gr, og, rfl, _, hgr, hcr⟩ := HROW.out.place (by omega)
              have HS : Hid (∀ w', Below wB.heap.size wB w' → Below wB.heap.size wB w' ∧ w'.cell? ⟨p, 6, none⟩ = some (.slice (some ⟨g6, o6, none⟩) L.outs.length co) ∧ w'.cell? ⟨g6, o6 + k, none⟩ = some (.slice (some ⟨gr, og, none⟩) n cr) ∧ (rowVar 67 ⟨gr, og + j * 20, none⟩).run Tryz.prog w' = .ok (.agg #[.int .i64 x, .int .i64 0, .int .i64 0, .int .i64 0, .int .i64 0, .int .i64 0, .int .u64 0, .int .u64 0, .int .u64 0, .int .u64 0, .int .u64 0, .string ⟨#[]⟩, .int .u64 0, .int .i64 0, .int .u64 0, .int .u64 0, .int .u64 0, .int .u64 0, .int .u64 0, .int .u64 0]) w' ∧ (rowVar 67 ⟨B0, 0, none⟩).run Tryz.prog w' = .ok (.agg #[.int .i64 x, .int .i64 0, .int .i64 0, .int .i64 0, .int .i64 0, .int .i64 0, .int .u64 0, .int .u64 0, .int .u64 0, .int .u64 0, .int .u64 0, .string ⟨#[]⟩, .int .u64 0, .int .i64 0, .int .u64 0, .int .u64 0, .int .u64 0, .int .u64 0, .int .u64 0, .int .u64 0]) w') := fun w' hb' => by
                have hbw' := bnext HBB.out hb'
                refine ⟨hb', (hbw'.cell (p := ⟨p, 6, none⟩) hp).trans d6, (hbw'.cell (p := ⟨g6, o6 + k, none⟩) hg6).trans f6, ?_, ?_⟩
                · refine rowVar_mid w' gr (og + j * 20) _ (lmk x) _ (fun i u hu => ?_) Tryz.underlying67 rfl ltr_size
                  have hi : i < 20 := (List.getElem?_eq_some_iff.1 hu).1
                  have h1 := HROW.out.cellAt (j * 20 + i) (mul_lt hjn hi)
                  have h2 := reps_get (lmk x) n j i hjn hi
                  rw [lmk_len] at h2
                  rw [hbw'.cell (p := ⟨gr, og + j * 20 + i, none⟩) hgr, Nat.add_assoc, h1, h2]
                  exact hu
                · exact rowVar_whole w' _ _ _ _ _ _ (box_below HXB.out hb') Tryz.underlying67 rfl ltr_size
              have i1 : (0 : Int) ≤ (j : Int) := by omega
              have i2 : (j : Int) < (n : Int) := by omega
              have i3 : (k : Int) < (L.outs.length : Int) := by omega
              have HSL : Hid (∀ W : World, Calls Tryz.prog 23 #[.agg #[.int .i64 x, .int .i64 0, .int .i64 0, .int .i64 0, .int .i64 0, .int .i64 0, .int .u64 0, .int .u64 0, .int .u64 0, .int .u64 0, .int .u64 0, .string ⟨#[]⟩, .int .u64 0, .int .i64 0, .int .u64 0, .int .u64 0, .int .u64 0, .int .u64 0, .int .u64 0, .int .u64 0], .agg #[.int .i64 x, .int .i64 0, .int .i64 0, .int .i64 0, .int .i64 0, .int .i64 0, .int .u64 0, .int .u64 0, .int .u64 0, .int .u64 0, .int .u64 0, .string ⟨#[]⟩, .int .u64 0, .int .i64 0, .int .u64 0, .int .u64 0, .int .u64 0, .int .u64 0, .int .u64 0, .int .u64 0]] W fun e w' => e = .returned (.bool true) ∧ Below W.heap.size W w') := fun W => lsameLetter ⟨x, Msg.zero⟩ W
              go_wp2
              go_region_held3 (fun w' => Below wB.heap.size wB w' ∧ w'.cell? ⟨p, 6, none⟩ = some (.slice (some ⟨g6, o6, none⟩) L.outs.length co) ∧ w'.cell? ⟨g6, o6 + k, none⟩ = some (.slice (some ⟨gr, og, none⟩) n cr) ∧ (rowVar 67 ⟨gr, og + j * 20, none⟩).run Tryz.prog w' = .ok (.agg #[.int .i64 x, .int .i64 0, .int .i64 0, .int .i64 0, .int .i64 0, .int .i64 0, .int .u64 0, .int .u64 0, .int .u64 0, .int .u64 0, .int .u64 0, .string ⟨#[]⟩, .int .u64 0, .int .i64 0, .int .u64 0, .int .u64 0, .int .u64 0, .int .u64 0, .int .u64 0, .int .u64 0]) w' ∧ (rowVar 67 ⟨B0, 0, none⟩).run Tryz.prog w' = .ok (.agg #[.int .i64 x, .int .i64 0, .int .i64 0, .int .i64 0, .int .i64 0, .int .i64 0, .int .u64 0, .int .u64 0, .int .u64 0, .int .u64 0, .int .u64 0, .string ⟨#[]⟩, .int .u64 0, .int .i64 0, .int .u64 0, .int .u64 0, .int .u64 0, .int .u64 0, .int .u64 0, .int .u64 0]) w')
                (first | (exact HS.out _ (bnext (And.left ‹Below wB.heap.size wB _ ∧ _›) (by assumption))) | (exact HS.out _ hb.out.drew))
                ((go_at_call 23; refine (HSL.out _).mono ?_; rintro e w3 ⟨rfl, hb3⟩))
              have hh := And.left ‹Below wB.heap.size wB _ ∧ _›
              go_wp2
              go_roundw
              case rel => exact ⟨j + 1, by omega, by go_num, hh⟩
              case measure => simp [intOf]; omega
            · go_wp2
              go_roundw
              case rel => exact ⟨k + 1, by omega, by go_num, bnext HBB.out hb.out⟩
              case measure => simp [intOf]; omega
        · go_wp2
          go_ret
          exact ⟨rfl, hb.out⟩
end Go.Proofs.YtkehpnobidendaaGreatDoor

namespace Go.Proofs.YtkehpnobidendaaGreatDoor
open Go.RowKit
attribute [local go_sem ↓] load_ltr store_ltr load_blk

/-- A letter is heard: its block is met, and it is kept. -/
def Law.met1 (L : Law) (l : Ltr) : Law := if l.msg.kind = 1 then L.meets l.msg.block else L
def Law.keepL (L : Law) (l : Ltr) : Law := if L.letters.length < 2000 then { L with letters := L.letters ++ [l] } else L
def Law.hears (L : Law) (l : Ltr) : Law := (L.met1 l).keepL l
theorem lcells_len (l : Ltr) : l.cells.length = 20 := rfl
/-- All blocks that were met are as the reading says. -/
def Law.Ok (L : Law) : Prop := ∀ o ∈ L.blocks, o.Ok
theorem meets_ok {L : Law} {b : Blk} (h : L.Ok) (hb : b.Ok) : (L.meets b).Ok := by
  unfold Law.meets
  split
  · exact h
  · intro o ho
    rcases List.mem_append.1 ho with h1 | h1
    · exact h o h1
    · simp at h1; subst h1; exact hb
theorem meets_len (L : Law) (b : Blk) : (L.meets b).blocks.length ≤ L.blocks.length + 1 ∧ (L.meets b).letters = L.letters := by
  unfold Law.meets
  split
  · exact ⟨by simp, rfl⟩
  · exact ⟨by simp, rfl⟩
theorem met1_ok {L : Law} {l : Ltr} (h : L.Ok) (hb : l.msg.kind = 1 → l.msg.block.Ok) : (L.met1 l).Ok := by
  unfold Law.met1
  split
  · rename_i hk; exact meets_ok h (hb hk)
  · exact h
theorem met1_len (L : Law) (l : Ltr) : (L.met1 l).blocks.length ≤ L.blocks.length + 1 ∧ (L.met1 l).letters = L.letters := by
  unfold Law.met1
  split
  · exact meets_len L _
  · exact ⟨by omega, rfl⟩
theorem hears_ok {L : Law} {l : Ltr} (h : L.Ok) (hb : l.msg.kind = 1 → l.msg.block.Ok) : (L.hears l).Ok := by
  have h1 := met1_ok h hb
  unfold Law.hears Law.keepL
  split <;> exact h1
theorem hears_len (L : Law) (l : Ltr) : (L.hears l).blocks.length ≤ L.blocks.length + 1 ∧ (L.hears l).letters.length ≤ max 2000 L.letters.length := by
  have h1 := met1_len L l
  unfold Law.hears Law.keepL
  split
  · rename_i h2
    refine ⟨h1.1, ?_⟩
    simp only [List.length_append, List.length_singleton]
    omega
  · refine ⟨h1.1, ?_⟩
    rw [h1.2]; omega
theorem fold_hears (ls : List Ltr) (hb : ∀ l ∈ ls, l.msg.kind = 1 → l.msg.block.Ok) : ∀ (L : Law), L.Ok → L.letters.length ≤ 2000 → (ls.foldl Law.hears L).Ok ∧ (ls.foldl Law.hears L).blocks.length ≤ L.blocks.length + ls.length ∧ (ls.foldl Law.hears L).letters.length ≤ 2000 := by
  induction ls with
  | nil => intro L h1 h2; exact ⟨h1, by simp, h2⟩
  | cons l r ih =>
    intro L h1 h2
    have h3 := hears_len L l
    have h4 := ih (fun x hx => hb x (by simp [hx])) (L.hears l) (hears_ok h1 (hb l (by simp))) (by omega)
    refine ⟨h4.1, ?_, h4.2.2⟩
    have := h4.2.1
    simp only [List.foldl_cons, List.length_cons]
    omega
theorem fold_take {α : Type} (f : Law → α → Law) (l : List α) (L : Law) (k : Nat) (h : k < l.length) : (l.take (k + 1)).foldl f L = f ((l.take k).foldl f L) l[k] := by
  rw [List.take_succ_eq_append_getElem h, List.foldl_append]; rfl

/-- What holds when the law has heard a list of letters: the list that came out is its owner's, and reads as the mark. -/
structure Heard (w w' : World) (p : Nat) (S : Nat → Prop) (L : Law) (v : Value) (ls : List Ltr) : Prop where
  ex : ∃ S' T rs, LMem w' p S' (ls.foldl Law.hears (Law.addO { L with count := L.count + 1 } rs (-(L.count + 1)))) ∧ rs.length = 4 ∧ Grow S w S' ∧ Fr (fun j => S j ∨ v.ownBlock = some j) w w' ∧ (∀ r ∈ rs, ∃ n, Row w' T 67 20 r n (reps n (lmk (-(L.count + 1))))) ∧ (∀ j, T j → (v.ownBlock = some j ∨ w.heap.size ≤ j) ∧ ¬ S' j ∧ j < w'.heap.size)

set_option maxRecDepth 100000 in
set_option maxHeartbeats 4000000 in
theorem lletters (w : World) (p : Nat) (S R1 R2 : Nat → Prop) (L : Law) (h : LMem w p S L) (v1 v2 : Value) (ls : List Ltr) (h1 : Row w R1 67 20 v1 ls.length (ls.flatMap Ltr.cells)) (h2 : Row w R2 67 20 v2 ls.length (ls.flatMap Ltr.cells)) (hR1 : ∀ k, R1 k → ¬ S k) (hR2 : ∀ k, R2 k → ¬ S k ∧ ¬ R1 k) (hn : ls.length ≤ 1000)
    (hb : ∀ l ∈ ls, l.msg.kind = 1 → l.msg.block.Ok) (hok : L.Ok) (hle : L.letters.length ≤ 2000) (hbl : L.blocks.length ≤ 1800000000000) (hc0 : 0 ≤ L.count) (hc1 : L.count ≤ 10000000000000) (ht : L.outs.length ≤ 5800000000000) (hm : L.om.length ≤ 5800000000000) :
    Calls Tryz.prog 20 #[.pointer (some ⟨p, 0, none⟩), v1, v2] w fun e w' => e = .returned (.bool true) ∧ Heard w w' p S L v1 ls := by
  obtain ⟨a1, cp1, rfl⟩ := h1.isSlice
  obtain ⟨a2, cp2, rfl⟩ := h2.isSlice
  have HM : Hid (LMem w p S L) := h
  have H1 : Hid (Row w R1 67 20 (.slice a1 ls.length cp1) ls.length (ls.flatMap Ltr.cells)) := h1
  have H2 : Hid (Row w R2 67 20 (.slice a2 ls.length cp2) ls.length (ls.flatMap Ltr.cells)) := h2
  have HR1 : Hid (∀ k, R1 k → ¬ S k) := hR1
  have HR2 : Hid (∀ k, R2 k → ¬ S k ∧ ¬ R1 k) := hR2
  have HB : Hid (∀ l ∈ ls, l.msg.kind = 1 → l.msg.block.Ok) := hb
  have HOK : Hid L.Ok := hok
  clear h h1 h2 hR1 hR2 hb hok
  go_enter Tryz.func20, Tryz.ntmps20
  go_wp2
  go_loopw [7, 8] (fun y i wr => ∃ k : Nat, k ≤ ls.length ∧ i = .int .i64 k ∧ y = .bool true ∧ Hid (Below w.heap.size w wr)) (fun _ i _ => ls.length - (intOf i).toNat)
  case atStart => exact ⟨0, by omega, rfl, by simp, Below.refl _ _⟩
  case round =>
    obtain ⟨k, hk, rfl, rfl, hbw⟩ := hrel
    by_cases hlt : k < ls.length
    · obtain ⟨g1, o1, rfl, _, hg1, hcp1⟩ := H1.out.place (by omega)
      obtain ⟨g2, o2, rfl, _, hg2, hcp2⟩ := H2.out.place (by omega)
      have i1 : (0 : Int) ≤ (k : Int) := by omega
      have i2 : (k : Int) < (ls.length : Int) := by omega
      have HS : Hid (∀ w', Below w.heap.size w w' → Below w.heap.size w w' ∧ (rowVar 67 ⟨g1, o1 + k * 20, none⟩).run Tryz.prog w' = .ok (.agg ls[k].cells.toArray) w' ∧ (rowVar 67 ⟨g2, o2 + k * 20, none⟩).run Tryz.prog w' = .ok (.agg ls[k].cells.toArray) w') := fun w' hb' => by
        refine ⟨hb', ?_, ?_⟩
        · exact rowVar_mid w' g1 (o1 + k * 20) _ ls[k].cells _ (fun i u hu => (hb'.cell (p := ⟨g1, o1 + k * 20 + i, none⟩) hg1).trans (H1.out.elemAt lcells_len k hlt i u hu)) Tryz.underlying67 rfl ltr_size
        · exact rowVar_mid w' g2 (o2 + k * 20) _ ls[k].cells _ (fun i u hu => (hb'.cell (p := ⟨g2, o2 + k * 20 + i, none⟩) hg2).trans (H2.out.elemAt lcells_len k hlt i u hu)) Tryz.underlying67 rfl ltr_size
      have HSL : Hid (∀ W : World, Calls Tryz.prog 23 #[.agg ls[k].cells.toArray, .agg ls[k].cells.toArray] W fun e w' => e = .returned (.bool true) ∧ Below W.heap.size W w') := fun W => lsameLetter ls[k] W
      generalize ls[k].cells.toArray = CK at HS HSL
      go_wp2
      go_region_held3 (fun w' => Below w.heap.size w w' ∧ (rowVar 67 ⟨g1, o1 + k * 20, none⟩).run Tryz.prog w' = .ok (.agg CK) w' ∧ (rowVar 67 ⟨g2, o2 + k * 20, none⟩).run Tryz.prog w' = .ok (.agg CK) w')
        (first | (exact HS.out _ (bnext (And.left ‹Below w.heap.size w _ ∧ _›) (by assumption))) | (exact HS.out _ hbw.out.drew))
        ((go_at_call 23; refine (HSL.out _).mono ?_; rintro e w3 ⟨rfl, hb3⟩))
      have hh := And.left ‹Below w.heap.size w _ ∧ _›
      go_wp2
      go_roundw
      case rel => exact ⟨k + 1, by omega, by go_num, rfl, hh⟩
      case measure => simp [intOf]; omega
    · have HM1 : Hid (LMem wr p S L) := HM.out.below hbw.out
      have HL1 : Hid (Row wr R1 67 20 (.slice a1 ls.length cp1) ls.length (ls.flatMap Ltr.cells)) := H1.out.below hbw.out
      have HL2 : Hid (Row wr R2 67 20 (.slice a2 ls.length cp2) ls.length (ls.flatMap Ltr.cells)) := H2.out.below hbw.out
      go_wp2_with (go_at_call 43; refine (lsent wr p S R1 L HM1.out (.slice a1 ls.length cp1) ls.length _ HL1.out HR1.out hn hc0 hc1 ht hm).mono ?_; rintro e w4 ⟨rfl, cur, hI⟩)
      obtain ⟨S4, T, rs, hL4, hc4, hg4, hF4, hrow4, hmk4, hT4⟩ := hI
      have hsz4 := hF4.size
      have HV4 : Hid (Row w4 R2 67 20 (.slice a2 ls.length cp2) ls.length (ls.flatMap Ltr.cells)) := HL2.out.move (fun i hi => ⟨hF4.block i (HL2.out.ownS hi).2 (fun h => by
        rcases h with h | h
        · exact (HR2.out i (HL2.out.ownS hi).1).1 h
        · exact (HR2.out i (HL2.out.ownS hi).1).2 (HL1.out.ownS h).1), (HL2.out.ownS hi).1⟩)
      have HN4 : Hid (∀ i, (Value.slice a2 ls.length cp2).ownBlock = some i → ¬ S4 i) := fun i hi hS => by
        rcases hg4 i hS with h | h
        · exact (HR2.out i (HL2.out.ownS hi).1).1 h
        · have := (HL2.out.ownS hi).2; omega
      have HL4 : Hid (LMem w4 p S4 (Law.addO { L with count := L.count + 1 } rs (-(L.count + 1)))) := hL4
      have HALL4 : Hid (rs.length = kept 65 ∧ Grow S wr S4 ∧ Fr (fun j => S j ∨ (Value.slice a1 ls.length cp1).ownBlock = some j) wr w4 ∧ (∀ r ∈ rs, Marked w4 T 67 (lmk (-(L.count + 1))) r cur) ∧ (∀ j, T j → ((Value.slice a1 ls.length cp1).ownBlock = some j ∨ wr.heap.size ≤ j) ∧ ¬ S4 j ∧ j < w4.heap.size)) := ⟨hc4, hg4, hF4, hmk4, hT4⟩
      have HFO : Hid (∀ k, k ≤ ls.length → ((ls.take k).foldl Law.hears (Law.addO { L with count := L.count + 1 } rs (-(L.count + 1)))).Ok ∧ ((ls.take k).foldl Law.hears (Law.addO { L with count := L.count + 1 } rs (-(L.count + 1)))).blocks.length ≤ L.blocks.length + 1000 ∧ ((ls.take k).foldl Law.hears (Law.addO { L with count := L.count + 1 } rs (-(L.count + 1)))).letters.length ≤ 2000) := fun k hk => by
        have := fold_hears (ls.take k) (fun l hl => HB.out l (List.mem_of_mem_take hl)) (Law.addO { L with count := L.count + 1 } rs (-(L.count + 1))) HOK.out hle
        refine ⟨this.1, ?_, this.2.2⟩
        have h2 := this.2.1
        rw [List.length_take] at h2
        have h3 : (Law.addO { L with count := L.count + 1 } rs (-(L.count + 1))).blocks = L.blocks := rfl
        rw [h3] at h2
        omega
      clear hL4 hc4 hg4 hF4 hrow4 hmk4 hT4 HM1 HL1 HL2 H1 H2 HM hlt hk
      generalize hLA : Law.addO { L with count := L.count + 1 } rs (-(L.count + 1)) = La at *
      have HLA : Hid (Law.addO { L with count := L.count + 1 } rs (-(L.count + 1)) = La) := hLA
      clear hLA
      go_wp2
      go_loopw [9] (fun i wr => ∃ (k : Nat) (S5 : Nat → Prop), k ≤ ls.length ∧ i = .int .i64 k ∧ Hid (LMem wr p S5 ((ls.take k).foldl Law.hears La)) ∧ Hid (Grow S4 w4 S5 ∧ Fr S4 w4 wr)) (fun i _ => ls.length - (intOf i).toNat)
      case atStart => exact ⟨0, S4, by omega, rfl, HL4, Grow.refl _ _, Fr.refl _ _⟩
      case round =>
        clear HL4
        obtain ⟨k, S5, hk, rfl, hM5, hG5⟩ := hrel
        by_cases hlt : k < ls.length
        · obtain ⟨g2, o2, rfl, hR2g, hg2, hcp2⟩ := HV4.out.place (by omega)
          have HEL : Hid (∀ w', Fr S4 w4 w' → w'.rangeAt g2 (o2 + k * 20) ls[k].cells) := fun w' hf i u hu => by
            rw [World.cell?_of_block (hf.block g2 hg2 (HN4.out g2 rfl))]
            exact HV4.out.elemAt lcells_len k hlt i u hu
          have HSTEP : Hid ((ls.take (k + 1)).foldl Law.hears La = ((ls.take k).foldl Law.hears La).hears ls[k]) := fold_take _ _ _ _ hlt
          have hOK5 := HFO.out k (by omega)
          have HBK : Hid (ls[k].msg.kind = 1 → ls[k].msg.block.Ok) := HB.out ls[k] (List.getElem_mem _)
          generalize (ls.take k).foldl Law.hears La = L5 at *
          generalize ls[k] = lk at *
          obtain ⟨l0, ⟨xk, xf, xv, ⟨bv, ⟨jv, jb, j0, j1, j2, j3⟩, bc⟩, nu, ⟨cv, cb, k0, k1, k2, k3⟩, sl⟩⟩ := lk
          have qk : wr.cell? ⟨g2, o2 + k * 20 + 1, none⟩ = some (.int .i64 xk) := HEL.out wr hG5.out.2 1 _ rfl
          by_cases hxk : xk = 1
          · subst hxk
            have hlb : (rowVar 41 ⟨g2, o2 + k * 20 + 4, none⟩).run Tryz.prog wr = .ok (.agg #[.int .i64 bv, .int .i64 jv, .int .u64 jb, .int .u64 j0, .int .u64 j1, .int .u64 j2, .int .u64 j3, .string bc]) wr := rowVar_mid wr g2 (o2 + k * 20 + 4) _ (Blk.cells ⟨bv, ⟨jv, jb, j0, j1, j2, j3⟩, bc⟩) _ (fun i u hu => by
              have hi : i < 8 := (List.getElem?_eq_some_iff.1 hu).1
              have h1 := HEL.out wr hG5.out.2 (4 + i) u (by
                match i, hi with
                | 0, _ => exact hu
                | 1, _ => exact hu
                | 2, _ => exact hu
                | 3, _ => exact hu
                | 4, _ => exact hu
                | 5, _ => exact hu
                | 6, _ => exact hu
                | 7, _ => exact hu)
              rw [← Nat.add_assoc] at h1
              exact h1) Tryz.underlying41 rfl blk_size
            have HMT : Hid (∀ W, LMem W p S5 L5 → Calls Tryz.prog 44 #[.pointer (some ⟨p, 0, none⟩), .agg #[.int .i64 bv, .int .i64 jv, .int .u64 jb, .int .u64 j0, .int .u64 j1, .int .u64 j2, .int .u64 j3, .string bc]] W fun e w' => e = .returned (.tuple #[]) ∧ ∃ S', LMem w' p S' (L5.meets ⟨bv, ⟨jv, jb, j0, j1, j2, j3⟩, bc⟩) ∧ Grow S5 W S' ∧ Fr S5 W w') := fun W hW => lmeets W p S5 L5 hW ⟨bv, ⟨jv, jb, j0, j1, j2, j3⟩, bc⟩ (HBK.out rfl) hOK5.1 (by have := hOK5.2.1; omega)
            have HL6 : Hid (L5.met1 ⟨l0, ⟨1, xf, xv, ⟨bv, ⟨jv, jb, j0, j1, j2, j3⟩, bc⟩, nu, ⟨cv, cb, k0, k1, k2, k3⟩, sl⟩⟩ = L5.meets ⟨bv, ⟨jv, jb, j0, j1, j2, j3⟩, bc⟩) := by show Law.met1 _ _ = _; unfold Law.met1; rw [if_pos rfl]
            have hOK6 : (L5.meets ⟨bv, ⟨jv, jb, j0, j1, j2, j3⟩, bc⟩).letters.length ≤ 2000 := by rw [(meets_len _ _).2]; exact hOK5.2.2
            go_upto_region 12 with (go_at_call 44; refine (HMT.out wr hM5.out).mono ?_; rintro e w6 ⟨rfl, S6, hm6, hg6, hf6⟩)
            have HM6 : Hid (LMem w6 p S6 (L5.meets ⟨bv, ⟨jv, jb, j0, j1, j2, j3⟩, bc⟩)) := hm6
            have HG6 : Hid (Grow S4 w4 S6 ∧ Fr S4 w4 w6) := ⟨hG5.out.1.trans hG5.out.2.size hg6, hG5.out.2.grow hG5.out.1 hf6⟩
            clear hm6 hg6 hf6 HMT hlb qk
            generalize L5.meets ⟨bv, ⟨jv, jb, j0, j1, j2, j3⟩, bc⟩ = L6 at *
            obtain ⟨um, ul, ub, ut, us, uo, un, hB⟩ := HM6.out
            have hRL : Row w6 S6 67 20 ul L6.letters.length (L6.letters.flatMap Ltr.cells) := hB.row 1 _ _ _ rfl rfl rfl
            obtain ⟨al, cl, rfl⟩ := hRL.isSlice
            have q1 : w6.cell? ⟨p, 1, none⟩ = some (.slice al L6.letters.length cl) := cell_at hB.box 1
            have q1a : ∀ o, (w6.alloc o).cell? ⟨p, 1, none⟩ = some (.slice al L6.letters.length cl) := fun o => cell_at (hB.alloc o).box 1
            have fz6 := free_at hB.box
            have HRL : Hid (Row w6 S6 67 20 (.slice al L6.letters.length cl) L6.letters.length (L6.letters.flatMap Ltr.cells)) := hRL
            have HB6 : Hid (Bun w6 p 34 S6 (lcells L6 um (.slice al L6.letters.length cl) ub ut us uo un) [um, (.slice al L6.letters.length cl), ub, ut, us, uo, un] lE (lX L6)) := hB
            have hll := hOK6
            have HL : ∀ w', Fr S4 w4 w' → (rowVar 67 ⟨g2, o2 + k * 20, none⟩).run Tryz.prog w' = .ok (.agg #[.int .i64 l0, .int .i64 1, .int .i64 xf, .int .i64 xv, .int .i64 bv, .int .i64 jv, .int .u64 jb, .int .u64 j0, .int .u64 j1, .int .u64 j2, .int .u64 j3, .string bc, .int .u64 nu, .int .i64 cv, .int .u64 cb, .int .u64 k0, .int .u64 k1, .int .u64 k2, .int .u64 k3, .int .u64 sl]) w' := fun w' hf => rowVar_mid w' g2 (o2 + k * 20) _ (Ltr.cells ⟨l0, ⟨1, xf, xv, ⟨bv, ⟨jv, jb, j0, j1, j2, j3⟩, bc⟩, nu, ⟨cv, cb, k0, k1, k2, k3⟩, sl⟩⟩) _ (HEL.out w' hf) Tryz.underlying67 rfl ltr_size
            have hlw : (rowVar 67 ⟨g2, o2 + k * 20, none⟩).run Tryz.prog w6.drew = .ok (.agg #[.int .i64 l0, .int .i64 1, .int .i64 xf, .int .i64 xv, .int .i64 bv, .int .i64 jv, .int .u64 jb, .int .u64 j0, .int .u64 j1, .int .u64 j2, .int .u64 j3, .string bc, .int .u64 nu, .int .i64 cv, .int .u64 cb, .int .u64 k0, .int .u64 k1, .int .u64 k2, .int .u64 k3, .int .u64 sl]) w6.drew := HL _ (HG6.out.2.trans (Fr.drew S4 w6) (fun _ h => .inl h))
            have hla : ∀ o, (rowVar 67 ⟨g2, o2 + k * 20, none⟩).run Tryz.prog (w6.alloc o).drew = .ok (.agg #[.int .i64 l0, .int .i64 1, .int .i64 xf, .int .i64 xv, .int .i64 bv, .int .i64 jv, .int .u64 jb, .int .u64 j0, .int .u64 j1, .int .u64 j2, .int .u64 j3, .string bc, .int .u64 nu, .int .i64 cv, .int .u64 cb, .int .u64 k0, .int .u64 k1, .int .u64 k2, .int .u64 k3, .int .u64 sl]) (w6.alloc o).drew := fun o => HL _ ((HG6.out.2.trans (Fr.alloc S4 w6 o) (fun _ h => .inl h)).trans (Fr.drew S4 _) (fun _ h => .inl h))
            clear hB hRL HL HEL
            have i1 : (0 : Int) ≤ (k : Int) := by omega
            have i2 : (k : Int) < (ls.length : Int) := by omega
            by_cases hlen : L6.letters.length < 2000
            · have hlenI : (L6.letters.length : Int) < 2000 := by omega
              have HKL : Hid (L6.keepL ⟨l0, ⟨1, xf, xv, ⟨bv, ⟨jv, jb, j0, j1, j2, j3⟩, bc⟩, nu, ⟨cv, cb, k0, k1, k2, k3⟩, sl⟩⟩ = { L6 with letters := L6.letters ++ [⟨l0, ⟨1, xf, xv, ⟨bv, ⟨jv, jb, j0, j1, j2, j3⟩, bc⟩, nu, ⟨cv, cb, k0, k1, k2, k3⟩, sl⟩⟩] }) := by show L6.keepL _ = _; unfold Law.keepL; rw [if_pos hlen]
              go_wp2
              go_region_law (refine step_append_row rfl (.tmp 67) (.tmp 72) 27 rfl S6 67 _ 20 168 Tryz.underlying27 info_letter rfl (.slice al L6.letters.length cl) L6.letters.length (L6.letters.flatMap Ltr.cells) (by simp [Act.eval]) ((HRL.out.alloc _).drew) ⟨w6.heap.size, 0, none⟩ 1 1 (Ltr.cells ⟨l0, ⟨1, xf, xv, ⟨bv, ⟨jv, jb, j0, j1, j2, j3⟩, bc⟩, nu, ⟨cv, cb, k0, k1, k2, k3⟩, sl⟩⟩) (by simp [Act.eval]) rfl (new_cells _ _ _ rfl) (by simp [Ltr.cells, Msg.cells, Value.oneCell']) (by omega) (by unfold maxLen; omega) (by omega) ?_; intro v' w7 hr' hf; obtain ⟨a7, cp7, rfl⟩ := hr'.isSlice; have hb7 := ((HB6.out.alloc _).drew).after 1 rfl hf; have q7 : w7.cell? ⟨p, 1, none⟩ = some (.slice al L6.letters.length cl) := cell_at hb7 1; have fz7 := free_at hb7; clear hb7; have R7 : Hid _ := hr'; have F7 : Hid (Fr _ _ w7) := hf; clear hr' hf)
              all_goals (
                have hB7 := ((HB6.out.alloc _).drew).put (X' := lX { L6 with letters := L6.letters ++ [⟨l0, ⟨1, xf, xv, ⟨bv, ⟨jv, jb, j0, j1, j2, j3⟩, bc⟩, nu, ⟨cv, cb, k0, k1, k2, k3⟩, sl⟩⟩] }) 1 rfl rfl _ (L6.letters.length + 1, L6.letters.flatMap Ltr.cells ++ Ltr.cells ⟨l0, ⟨1, xf, xv, ⟨bv, ⟨jv, jb, j0, j1, j2, j3⟩, bc⟩, nu, ⟨cv, cb, k0, k1, k2, k3⟩, sl⟩⟩) R7.out F7.out 1 rfl rfl (by simp [lX])
                have hG7 : Grow S6 w6 (fun k => S6 k ∨ (Value.slice a7 (L6.letters.length + 1) cp7).ownBlock = some k) := grow_put R7.out (by simp [World.drew]) (fun k hk => (HRL.out.ownS hk).1)
                have hF7 := ((HB6.out.alloc _).drew).frPut (S := S6) (w := w6) ((Fr.alloc S6 w6 _).trans (Fr.drew S6 _) (fun _ hi => .inl hi)) 1 rfl F7.out 1 (.slice a7 (L6.letters.length + 1) cp7)
                have HB7 : Hid _ := hB7
                have HG7 : Hid _ := hG7
                have HF7 : Hid _ := hF7
                clear hB7 hG7 hF7 R7 F7 q7 fz7 q1a hla hlw
                go_wp2
                go_roundw
                case rel =>
                  refine ⟨k + 1, _, by omega, by go_num, ?_, HG6.out.1.trans HG6.out.2.size HG7.out, HG6.out.2.grow HG6.out.1 HF7.out⟩
                  rw [HSTEP.out]
                  show LMem _ p _ ((Law.met1 _ _).keepL _)
                  rw [HL6.out, HKL.out]
                  exact ⟨um, _, ub, ut, us, uo, un, HB7.out⟩
                case measure => simp [intOf]; omega)
            · have hlenI : ¬ (L6.letters.length : Int) < 2000 := by omega
              have HKL : Hid (L6.keepL ⟨l0, ⟨1, xf, xv, ⟨bv, ⟨jv, jb, j0, j1, j2, j3⟩, bc⟩, nu, ⟨cv, cb, k0, k1, k2, k3⟩, sl⟩⟩ = L6) := by show L6.keepL _ = _; unfold Law.keepL; rw [if_neg hlen]
              go_wp2
              go_roundw
              case rel =>
                refine ⟨k + 1, S6, by omega, by go_num, ?_, HG6.out⟩
                rw [HSTEP.out]
                show LMem _ p _ ((Law.met1 _ _).keepL _)
                rw [HL6.out, HKL.out]
                exact HM6.out
              case measure => simp [intOf]; omega

          · have HL6 : Hid (L5.met1 ⟨l0, ⟨xk, xf, xv, ⟨bv, ⟨jv, jb, j0, j1, j2, j3⟩, bc⟩, nu, ⟨cv, cb, k0, k1, k2, k3⟩, sl⟩⟩ = L5) := by show Law.met1 _ _ = _; unfold Law.met1; rw [if_neg hxk]
            have hOK6 := hOK5.2.2
            have hxi : (xk == 1) = false := by simp; exact hxk
            go_upto_region 12 with fail
            have HM6 : Hid (LMem wr p S5 L5) := hM5
            have HG6 : Hid (Grow S4 w4 S5 ∧ Fr S4 w4 wr) := hG5
            clear hM5 hG5 qk
            obtain ⟨um, ul, ub, ut, us, uo, un, hB⟩ := HM6.out
            have hRL : Row wr S5 67 20 ul L5.letters.length (L5.letters.flatMap Ltr.cells) := hB.row 1 _ _ _ rfl rfl rfl
            obtain ⟨al, cl, rfl⟩ := hRL.isSlice
            have q1 : wr.cell? ⟨p, 1, none⟩ = some (.slice al L5.letters.length cl) := cell_at hB.box 1
            have q1a : ∀ o, (wr.alloc o).cell? ⟨p, 1, none⟩ = some (.slice al L5.letters.length cl) := fun o => cell_at (hB.alloc o).box 1
            have fz6 := free_at hB.box
            have HRL : Hid (Row wr S5 67 20 (.slice al L5.letters.length cl) L5.letters.length (L5.letters.flatMap Ltr.cells)) := hRL
            have HB6 : Hid (Bun wr p 34 S5 (lcells L5 um (.slice al L5.letters.length cl) ub ut us uo un) [um, (.slice al L5.letters.length cl), ub, ut, us, uo, un] lE (lX L5)) := hB
            have hll := hOK6
            have HL : ∀ w', Fr S4 w4 w' → (rowVar 67 ⟨g2, o2 + k * 20, none⟩).run Tryz.prog w' = .ok (.agg #[.int .i64 l0, .int .i64 xk, .int .i64 xf, .int .i64 xv, .int .i64 bv, .int .i64 jv, .int .u64 jb, .int .u64 j0, .int .u64 j1, .int .u64 j2, .int .u64 j3, .string bc, .int .u64 nu, .int .i64 cv, .int .u64 cb, .int .u64 k0, .int .u64 k1, .int .u64 k2, .int .u64 k3, .int .u64 sl]) w' := fun w' hf => rowVar_mid w' g2 (o2 + k * 20) _ (Ltr.cells ⟨l0, ⟨xk, xf, xv, ⟨bv, ⟨jv, jb, j0, j1, j2, j3⟩, bc⟩, nu, ⟨cv, cb, k0, k1, k2, k3⟩, sl⟩⟩) _ (HEL.out w' hf) Tryz.underlying67 rfl ltr_size
            have hlw : (rowVar 67 ⟨g2, o2 + k * 20, none⟩).run Tryz.prog wr.drew = .ok (.agg #[.int .i64 l0, .int .i64 xk, .int .i64 xf, .int .i64 xv, .int .i64 bv, .int .i64 jv, .int .u64 jb, .int .u64 j0, .int .u64 j1, .int .u64 j2, .int .u64 j3, .string bc, .int .u64 nu, .int .i64 cv, .int .u64 cb, .int .u64 k0, .int .u64 k1, .int .u64 k2, .int .u64 k3, .int .u64 sl]) wr.drew := HL _ (HG6.out.2.trans (Fr.drew S4 wr) (fun _ h => .inl h))
            have hla : ∀ o, (rowVar 67 ⟨g2, o2 + k * 20, none⟩).run Tryz.prog (wr.alloc o).drew = .ok (.agg #[.int .i64 l0, .int .i64 xk, .int .i64 xf, .int .i64 xv, .int .i64 bv, .int .i64 jv, .int .u64 jb, .int .u64 j0, .int .u64 j1, .int .u64 j2, .int .u64 j3, .string bc, .int .u64 nu, .int .i64 cv, .int .u64 cb, .int .u64 k0, .int .u64 k1, .int .u64 k2, .int .u64 k3, .int .u64 sl]) (wr.alloc o).drew := fun o => HL _ ((HG6.out.2.trans (Fr.alloc S4 wr o) (fun _ h => .inl h)).trans (Fr.drew S4 _) (fun _ h => .inl h))
            clear hB hRL HL HEL
            have i1 : (0 : Int) ≤ (k : Int) := by omega
            have i2 : (k : Int) < (ls.length : Int) := by omega
            by_cases hlen : L5.letters.length < 2000
            · have hlenI : (L5.letters.length : Int) < 2000 := by omega
              have HKL : Hid (L5.keepL ⟨l0, ⟨xk, xf, xv, ⟨bv, ⟨jv, jb, j0, j1, j2, j3⟩, bc⟩, nu, ⟨cv, cb, k0, k1, k2, k3⟩, sl⟩⟩ = { L5 with letters := L5.letters ++ [⟨l0, ⟨xk, xf, xv, ⟨bv, ⟨jv, jb, j0, j1, j2, j3⟩, bc⟩, nu, ⟨cv, cb, k0, k1, k2, k3⟩, sl⟩⟩] }) := by show L5.keepL _ = _; unfold Law.keepL; rw [if_pos hlen]
              go_wp2
              go_region_law (refine step_append_row rfl (.tmp 67) (.tmp 72) 27 rfl S5 67 _ 20 168 Tryz.underlying27 info_letter rfl (.slice al L5.letters.length cl) L5.letters.length (L5.letters.flatMap Ltr.cells) (by simp [Act.eval]) ((HRL.out.alloc _).drew) ⟨wr.heap.size, 0, none⟩ 1 1 (Ltr.cells ⟨l0, ⟨xk, xf, xv, ⟨bv, ⟨jv, jb, j0, j1, j2, j3⟩, bc⟩, nu, ⟨cv, cb, k0, k1, k2, k3⟩, sl⟩⟩) (by simp [Act.eval]) rfl (new_cells _ _ _ rfl) (by simp [Ltr.cells, Msg.cells, Value.oneCell']) (by omega) (by unfold maxLen; omega) (by omega) ?_; intro v' w7 hr' hf; obtain ⟨a7, cp7, rfl⟩ := hr'.isSlice; have hb7 := ((HB6.out.alloc _).drew).after 1 rfl hf; have q7 : w7.cell? ⟨p, 1, none⟩ = some (.slice al L5.letters.length cl) := cell_at hb7 1; have fz7 := free_at hb7; clear hb7; have R7 : Hid _ := hr'; have F7 : Hid (Fr _ _ w7) := hf; clear hr' hf)
              all_goals (
                have hB7 := ((HB6.out.alloc _).drew).put (X' := lX { L5 with letters := L5.letters ++ [⟨l0, ⟨xk, xf, xv, ⟨bv, ⟨jv, jb, j0, j1, j2, j3⟩, bc⟩, nu, ⟨cv, cb, k0, k1, k2, k3⟩, sl⟩⟩] }) 1 rfl rfl _ (L5.letters.length + 1, L5.letters.flatMap Ltr.cells ++ Ltr.cells ⟨l0, ⟨xk, xf, xv, ⟨bv, ⟨jv, jb, j0, j1, j2, j3⟩, bc⟩, nu, ⟨cv, cb, k0, k1, k2, k3⟩, sl⟩⟩) R7.out F7.out 1 rfl rfl (by simp [lX])
                have hG7 : Grow S5 wr (fun k => S5 k ∨ (Value.slice a7 (L5.letters.length + 1) cp7).ownBlock = some k) := grow_put R7.out (by simp [World.drew]) (fun k hk => (HRL.out.ownS hk).1)
                have hF7 := ((HB6.out.alloc _).drew).frPut (S := S5) (w := wr) ((Fr.alloc S5 wr _).trans (Fr.drew S5 _) (fun _ hi => .inl hi)) 1 rfl F7.out 1 (.slice a7 (L5.letters.length + 1) cp7)
                have HB7 : Hid _ := hB7
                have HG7 : Hid _ := hG7
                have HF7 : Hid _ := hF7
                clear hB7 hG7 hF7 R7 F7 q7 fz7 q1a hla hlw
                go_wp2
                go_roundw
                case rel =>
                  refine ⟨k + 1, _, by omega, by go_num, ?_, HG6.out.1.trans HG6.out.2.size HG7.out, HG6.out.2.grow HG6.out.1 HF7.out⟩
                  rw [HSTEP.out]
                  show LMem _ p _ ((Law.met1 _ _).keepL _)
                  rw [HL6.out, HKL.out]
                  exact ⟨um, _, ub, ut, us, uo, un, HB7.out⟩
                case measure => simp [intOf]; omega)
            · have hlenI : ¬ (L5.letters.length : Int) < 2000 := by omega
              have HKL : Hid (L5.keepL ⟨l0, ⟨xk, xf, xv, ⟨bv, ⟨jv, jb, j0, j1, j2, j3⟩, bc⟩, nu, ⟨cv, cb, k0, k1, k2, k3⟩, sl⟩⟩ = L5) := by show L5.keepL _ = _; unfold Law.keepL; rw [if_neg hlen]
              go_wp2
              go_roundw
              case rel =>
                refine ⟨k + 1, S5, by omega, by go_num, ?_, HG6.out⟩
                rw [HSTEP.out]
                show LMem _ p _ ((Law.met1 _ _).keepL _)
                rw [HL6.out, HKL.out]
                exact HM6.out
              case measure => simp [intOf]; omega

        · go_wp2
          go_ret
          have hkl : k = ls.length := by omega
          subst hkl
          refine ⟨rfl, S5, T, rs, ?_, HALL4.out.1, ?_, ?_, fun r hr => ?_, fun j hj => ?_⟩
          · rw [HLA.out]
            have := hM5.out
            rw [List.take_length] at this
            exact this
          · exact fun j hj => by
              rcases hG5.out.1 j hj with h | h
              · rcases HALL4.out.2.1 j h with h | h
                · exact .inl h
                · exact .inr (Nat.le_trans hbw.out.size h)
              · exact .inr (Nat.le_trans (Nat.le_trans hbw.out.size hsz4) h)
          · exact ((Fr.of_below (S := fun j => S j ∨ (Value.slice a1 ls.length cp1).ownBlock = some j) hbw.out).trans HALL4.out.2.2.1 (fun _ h => .inl h)).trans hG5.out.2 (fun j hj => by
              rcases HALL4.out.2.1 j hj with h | h
              · exact .inl (.inl h)
              · exact .inr (Nat.le_trans hbw.out.size h))
          · obtain ⟨n, hr1, _⟩ := HALL4.out.2.2.2.1 r hr
            exact ⟨n, hr1.same (fun j hj hl => ⟨hG5.out.2.block j hl (HALL4.out.2.2.2.2 j hj).2.1, hj⟩)⟩
          · have h1 := HALL4.out.2.2.2.2 j hj
            refine ⟨h1.1.imp id (fun h => Nat.le_trans hbw.out.size h), fun hS => ?_, Nat.lt_of_lt_of_le h1.2.2 hG5.out.2.size⟩
            rcases hG5.out.1 j hS with h | h
            · exact h1.2.1 h
            · have := h1.2.2; omega
end Go.Proofs.YtkehpnobidendaaGreatDoor
