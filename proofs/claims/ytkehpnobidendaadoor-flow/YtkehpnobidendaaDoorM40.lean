/- The program's member: Log. -/
import Derived.Test.YtkehpnobidendaaDoorM17
namespace Go.Proofs.YtkehpnobidendaaDoor
open Go.RowKit Go.Maps

/-- What make gives is a row of ours. -/
theorem Row.made {w : World} {base e size n : Nat} {v : Value} {xs : List Value} (h : w.ownsRow base e size v n xs) (hl : xs.length = n * size) : Row w (fun k => base ≤ k) e size v n xs := by
  refine ⟨hl, ?_⟩
  rcases h.2 with h0 | ⟨g, cap, cur, h1, h2, h3, h4, h5, h6, h7⟩
  · exact .inl h0
  · exact .inr ⟨g, 0, cap, cur, h1, h2, h3, h4, h5, by omega, by simpa using h7⟩
theorem below_grown {w w' : World} (h : w.grownBy w' none) : Below w.heap.size w w' := ⟨h.os, h.tape, h.output, h.size, fun k hk => h.block k hk (by simp)⟩
set_option maxRecDepth 100000 in
set_option maxHeartbeats 1000000 in
theorem plog (w : World) (p : Nat) (S : Nat → Prop) (m : Mem) (h : PMem w p S m) (hn : m.log.length ≤ 1700000000000) (hlu : ∀ n ∈ m.log, n < 18446744073709551616) :
    Calls Tryd.prog 16 #[.pointer (some ⟨p, 0, none⟩)] w fun e w' => ∃ v, e = .returned v ∧ Row w' (fun k => w.heap.size ≤ k) 9 1 v m.commands.length (m.commands.flatMap scells) ∧ Below w.heap.size w w' := by
  have hcl : m.commands.length = m.log.length := by simp [Mem.commands]
  obtain ⟨vq, vl, bb, bv, bw, h1, h2⟩ := h.ex
  obtain ⟨nb, hnb, mb⟩ := h2.mb
  have MB : Hid (IMap Tryd.prog 22 .u64 isBlk w bb nb (bmap m)) := mb
  have hr : Row w S 22 1 vl m.log.length (m.log.flatMap ncells) := h1.row 1 _ _ _ rfl rfl rfl
  have c18 : w.cell? ⟨p, 18, none⟩ = some vl := cell_at h1.box 18
  have c19 : w.cell? ⟨p, 19, none⟩ = some (.map (some bb)) := cell_at h1.box 19
  have hp : p < w.heap.size := lt_at h1.box
  clear h h1 h2 mb
  obtain ⟨a, cap, rfl⟩ := hr.isSlice
  have HR : Hid (Row w S 22 1 (.slice a m.log.length cap) m.log.length (m.log.flatMap ncells)) := hr
  clear hr
  obtain ⟨i0, hi, hz0, hz1, hz2⟩ := info_parts info_string
  have hfc := fld_cmd
  go_enter Tryd.func16, Tryd.ntmps16
  go_wp2_with (first
    | (at_make; refine wpList_make_own _ rfl _ _ 43 rfl w.heap.size 9 i0 (.string ⟨#[]⟩) 1 Tryd.underlying43 hi hz0 hz1 .i64 .i64 _ m.log.length rfl rfl rfl (by rw [hz2]; omega) (by unfold maxLen; omega) (Nat.le_refl _) ?_; intro w0 ho0 hg0; have hb0 := below_grown hg0; have d18 := (hb0.cell (p := ⟨p, 18, none⟩) hp).trans c18; have HB0 : Hid (Below w.heap.size w w0) := hb0; have HO0 : Hid (Row w0 (fun k => w.heap.size ≤ k) 9 1 (.slice (some ⟨w.heap.size, 0, none⟩) 0 m.log.length) 0 []) := Row.made ho0 rfl; clear hb0 ho0 hg0)
    | go_in)
  go_loopw [3, 17] (fun v i wr => ∃ k : Nat, k ≤ m.log.length ∧ i = .int .i64 k ∧ Row wr (fun k => w.heap.size ≤ k) 9 1 v k ((m.commands.take k).flatMap scells) ∧ Hid (Below w.heap.size w wr)) (fun _ i _ => m.log.length - (intOf i).toNat)
  case atStart => exact ⟨0, by omega, rfl, HO0.out, HB0⟩
  case round =>
    obtain ⟨k, hk, rfl, hv, hb⟩ := hrel
    have e19 := (hb.out.cell (p := ⟨p, 19, none⟩) hp).trans c19
    by_cases hlt : k < m.log.length
    · obtain ⟨g, off, rfl, hSg, hg, hcap⟩ := HR.out.place (by omega)
      have q : _ = some (Value.int IntKind.u64 (m.log[k] : Nat)) := (hb.out.cell (p := ⟨g, off + k, none⟩) hg).trans (by have := HR.out.elem ncells_len k 0 hlt (by omega); simpa [ncells] using this)
      obtain ⟨a', cap', rfl⟩ := hv.isSlice
      have hnl := hlu m.log[k] (List.getElem_mem _)
      have hx1 := bmap_get m m.log[k]
      obtain ⟨⟨qv, ⟨qjv, qjb, q0, q1, q2, q3⟩, qc⟩, hq⟩ : ∃ x, x = (m.block m.log[k]).getD Blk.zero := ⟨_, rfl⟩
      rw [← hq] at hx1
      dsimp only [Blk.val, Blk.cells] at hx1
      have hQ : (m.commands.take (k + 1)).flatMap scells = (m.commands.take k).flatMap scells ++ [.string qc] := by
        rw [take_flat scells _ k (by omega)]
        simp [Mem.commands, ← hq, scells]
      have HQ : Hid ((m.commands.take (k + 1)).flatMap scells = (m.commands.take k).flatMap scells ++ [.string qc]) := hQ
      clear hQ
      clear hq
      generalize m.log[k] = n at q hx1 hnl
      go_wp2_with (first
        | (at_lookup; refine wpList_lookV rfl (.tmp 25) (.tmp 26) rfl rfl (MB.out.below hb.out) Tryd.underlying22 Tryd.underlying82 _ (zero_blk _) ⟨_, rfl⟩ n rfl (wf_u64 hnl) _ hx1 ?_)
        | (at_builtin; refine wpList_append_row rfl (.tmp 21) (.tmp 29) 43 rfl (fun k => w.heap.size ≤ k) 9 (.string ⟨#[]⟩) 1 16 Tryd.underlying43 info_string rfl (.slice a' k cap') k ((m.commands.take k).flatMap scells) rfl (hv.alloc _) ⟨wr.heap.size, 0, none⟩ 1 1 [.string qc] rfl rfl one_cell (by simp [Value.oneCell']) (by omega) (by unfold maxLen; omega) (by omega) ?_; intro v' w1 hr' hf; obtain ⟨a2, cap2, rfl⟩ := hr'.isSlice; have HR' : Hid _ := hr'; have HF : Hid (Fr _ _ w1) := hf; clear hr' hf))
      go_roundw
      case rel =>
        have hbb := bnext hb.out ((Below.refl _ _).alloc (Nat.le_refl _) (.cells #[.string qc] 9))
        refine ⟨k + 1, by omega, by go_num, ?_, ?_⟩
        · rw [HQ.out]
          refine HR'.out.same (fun j hj _ => ⟨rfl, ?_⟩)
          rcases hj with hj | hj
          · exact (hv.ownS hj).1
          · have := hbb.size; omega
        · exact ⟨HF.out.os.trans hbb.os, HF.out.tape.trans hbb.tape, HF.out.output.trans hbb.output, Nat.le_trans hbb.size HF.out.size, fun j hj => (HF.out.block j (Nat.lt_of_lt_of_le hj hbb.size) (fun e => by have := (hv.ownS e).1; omega)).trans (hbb.block j hj)⟩
      case measure => simp [intOf]; omega
    · go_wp2
      go_ret
      have hkl : k = m.log.length := by omega
      subst hkl
      rw [List.take_of_length_le (by omega), ← hcl] at hv
      exact ⟨_, rfl, hv, hb.out⟩
end Go.Proofs.YtkehpnobidendaaDoor
