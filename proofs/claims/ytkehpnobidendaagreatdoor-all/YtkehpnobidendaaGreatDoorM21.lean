/- The program's member: its next command (takeCommand), with the library's slices.Delete. The program's member: takeCommand, knows, mayPropose, noteProposed. The program's member: noteProposed. -/
import Derived.Test.YtkehpnobidendaaGreatDoorShelf2
import Derived.Test.YtkehpnobidendaaGreatDoorM19
namespace Go.Proofs.YtkehpnobidendaaGreatDoor
open Go.RowKit Go.Maps Go.Lib Go.Sort

theorem encStr_bytes (c : ByteArray) : encStr c.data.toList = .string c := by unfold encStr; simp
theorem scells_get (r : List ByteArray) (j : Nat) : (r.flatMap scells)[j]? = r[j]?.map Value.string := by
  induction r generalizing j with
  | nil => simp
  | cons a s ih => cases j <;> simp [scells, ih]
theorem pdelete {w : World} {S : Nat → Prop} {g off cap : Nat} {c : ByteArray} {r : List ByteArray} (h : Row w S 9 1 (.slice (some ⟨g, off, none⟩) (r.length + 1) cap) (r.length + 1) ((c :: r).flatMap scells)) :
    Calls Tryz.prog 76 #[.slice (some ⟨g, off, none⟩) (r.length + 1) cap, .int .i64 0, .int .i64 1] w fun e w' => e = .returned (.slice (some ⟨g, off, none⟩) r.length cap) ∧ Row w' (fun k => k = g) 9 1 (.slice (some ⟨g, off, none⟩) r.length cap) r.length (r.flatMap scells) ∧ Fr (fun k => k = g) w w' := by
  obtain ⟨zs, hzs⟩ : ∃ zs, zs = (c :: r).map (fun b : ByteArray => b.data.toList) := ⟨_, rfl⟩
  have hzl : zs.length = r.length + 1 := by rw [hzs]; simp
  have hzg : ∀ j, zs[j]? = (c :: r)[j]?.map (fun b : ByteArray => b.data.toList) := fun j => by rw [hzs, List.getElem?_map]
  rcases h.2 with ⟨h0, _⟩ | ⟨g', off', cap', cur, hv, hS, hg, hnc, hm, hs, hx⟩
  · cases h0
  · cases hv
    have hH : Holds encStr w g off zs.toArray := fun j hj => by
      have hj' : j < r.length + 1 := by simp at hj; omega
      refine ⟨?_, h.freeAt _⟩
      rw [h.cellAt j (by omega), scells_get]
      have hjc : (c :: r)[j]? = some ((c :: r)[j]'(by simp; omega)) := List.getElem?_eq_getElem _
      have hz := hzg j
      rw [hjc] at hz ⊢
      rw [getElem!_pos zs.toArray j hj]
      simp only [List.getElem_toArray]
      have : zs[j]'(by rw [hzl]; exact hj') = ((c :: r)[j]'(by simp; omega)).data.toList := by
        have h2 : zs[j]? = some (zs[j]'(by rw [hzl]; exact hj')) := List.getElem?_eq_getElem _
        rw [h2] at hz; simpa using hz
      rw [this, encStr_bytes]
      rfl
    have hc := Tryz.slices_Delete_string g off cap 0 1 zs w hH (by omega) (by unfold maxLen at hm; omega) (by omega) (by omega)
    rw [hzl] at hc
    refine hc.mono ?_
    rintro e w' ⟨rfl, k, rfl⟩
    have hd : (zs.take 0 ++ zs.drop 1 ++ List.replicate (1 - 0) []).toArray.size = r.length + 1 := by simp; omega
    have hb : (putRow encStr (Sort.ahead w k) g off (zs.take 0 ++ zs.drop 1 ++ List.replicate (1 - 0) []).toArray).heap[g]? = some (.cells (putCells encStr off (zs.take 0 ++ zs.drop 1 ++ List.replicate (1 - 0) []).toArray cur) 9 (0, 0)) := by
      unfold putRow mapBlock
      simp only [Sort.heap_ahead, Array.getElem?_modify, hg, if_true]
      rfl
    refine ⟨rfl, ⟨?_, .inr ⟨g, off, cap, _, rfl, rfl, hb, by omega, hm, ?_, ?_⟩⟩, ⟨rfl, rfl, rfl, by simp, fun j _ hj => ?_⟩⟩
    · simp [flat_len (s := 1) (f := scells) (fun _ => rfl)]
    · simpa [putCells] using hs
    · refine List.ext_getElem? (fun j => ?_)
      by_cases hj : j < r.length
      · rw [List.getElem?_take_of_lt (by omega), List.getElem?_drop, scells_get, Array.getElem?_toList]
        unfold putCells
        rw [Array.getElem?_mapIdx]
        have hin : off + j < cur.size := by omega
        rw [Array.getElem?_eq_getElem hin]
        simp only [Option.map_some]
        rw [if_pos ⟨by omega, by rw [hd]; omega⟩]
        have hidx : off + j - off = j := by omega
        rw [hidx, getElem!_pos _ j (by rw [hd]; omega)]
        have h1 : (zs.take 0 ++ zs.drop 1 ++ List.replicate (1 - 0) [])[j]? = r[j]?.map (fun b : ByteArray => b.data.toList) := by
          rw [List.append_assoc, List.take_zero, List.nil_append, List.getElem?_append_left (by simp; omega), List.getElem?_drop, Nat.add_comm, hzg]
          simp
        rw [List.getElem?_eq_getElem hj] at h1 ⊢
        simp only [Option.map_some, List.getElem_toArray] at h1 ⊢
        have h3 : (zs.take 0 ++ zs.drop 1 ++ List.replicate (1 - 0) [])[j]'(by simp; omega) = r[j].data.toList := by
          have h4 := List.getElem?_eq_getElem (l := zs.take 0 ++ zs.drop 1 ++ List.replicate (1 - 0) []) (i := j) (by simp; omega)
          rw [h4] at h1
          simpa using h1
        rw [h3, encStr_bytes]
      · rw [List.getElem?_eq_none (by simp; omega), List.getElem?_eq_none (by rw [flat_len (s := 1) (f := scells) (fun _ => rfl)]; omega)]
    · unfold putRow mapBlock
      simp only [Sort.heap_ahead, Array.getElem?_modify]
      rw [if_neg (fun e => hj e.symm)]
end Go.Proofs.YtkehpnobidendaaGreatDoor

namespace Go.Proofs.YtkehpnobidendaaGreatDoor
open Go.RowKit Go.Maps

/-- Its maps lie aside of whatever turns in rows of its own. -/
theorem PMaps.aside {w w1 : World} {S S' : Nat → Prop} {bb bv bw : Nat} {m : Mem} (h : PMaps w S bb bv bw m) {Z : Nat → Prop} (hf : Fr Z w w1) (hz : ∀ k, Z k → ∃ C T fz, w.heap[k]? = some (.cells C T fz)) (hs : ∀ k, S k → S' k) : PMaps w1 S' bb bv bw m := by
  refine h.same (fun k _ hk => hf.block k (by have := h.lts; omega) (fun hZ => ?_)) hs
  obtain ⟨C, T, fz, hc⟩ := hz k hZ
  have := h.ne hc
  rcases hk with rfl | rfl | rfl
  · exact this.1 rfl
  · exact this.2.1 rfl
  · exact this.2.2 rfl
set_option maxHeartbeats 1000000 in
theorem ptakeCommand (w : World) (p : Nat) (S : Nat → Prop) (m : Mem) (h : PMem w p S m) (hq : m.queue.length ≤ 8) :
    Calls Tryz.prog 61 #[.pointer (some ⟨p, 0, none⟩)] w fun e w' => e = .returned (.string (m.queue.headD ⟨#[]⟩)) ∧ PMem w' p S { m with queue := m.queue.tail } ∧ Fr S w w' := by
  have HP : Hid (PMem w p S m) := h
  obtain ⟨vq, vl, bb, bv, bw, h1, h2⟩ := h.ex
  have hr : Row w S 9 1 vq m.queue.length (m.queue.flatMap scells) := h1.row 0 _ _ _ rfl rfl rfl
  have c17 : w.cell? ⟨p, 17, none⟩ = some vq := cell_at h1.box 17
  have fz := free_at h1.box
  obtain hqq | ⟨c, r, hqq⟩ : m.queue = [] ∨ ∃ c r, m.queue = c :: r := by cases m.queue with | nil => exact .inl rfl | cons a s => exact .inr ⟨a, s, rfl⟩
  · have e1 : m.queue.length = 0 := by rw [hqq]; rfl
    have e2 : m.queue.headD ⟨#[]⟩ = ⟨#[]⟩ := by rw [hqq]; rfl
    have e3 : ({ m with queue := m.queue.tail } : Mem) = m := by rw [hqq]; cases m; simp at hqq; subst hqq; rfl
    rw [e2, e3]
    rw [e1] at hr
    obtain ⟨a, cap, rfl⟩ := hr.isSlice
    clear hr h1 h2 h e3 hqq
    go_enter Tryz.func61, Tryz.ntmps61
    go_wp2
    go_ret
    exact ⟨rfl, HP.out, Fr.refl _ _⟩
  · have e1 : m.queue.length = r.length + 1 := by rw [hqq]; rfl
    have e2 : m.queue.headD ⟨#[]⟩ = c := by rw [hqq]; rfl
    have e3 : m.queue.tail = r := by rw [hqq]; rfl
    rw [e2, e3]
    rw [e1, hqq] at hr
    rcases hr.shape with ⟨h0, h0', _⟩ | ⟨g, off, cap, rfl, hSg, hgl, hnc⟩
    · omega
    have hd := pdelete hr
    have q0 : w.cell? ⟨g, off, none⟩ = some (.string c) := by have := hr.cellAt 0 (by omega); simpa [scells] using this
    obtain ⟨C, hC⟩ : ∃ C, w.heap[g]? = some (.cells C 9 (0, 0)) := by
      rcases hr.2 with ⟨h0, _⟩ | ⟨g', off', cap', cur, hv, _, hg, _⟩
      · cases h0
      · cases hv; exact ⟨cur, hg⟩
    have H1 : Hid (Bun w p 82 S (qcells m (.slice (some ⟨g, off, none⟩) (r.length + 1) cap) vl bb bv bw) [.slice (some ⟨g, off, none⟩) (r.length + 1) cap, vl] qE (qX m)) := h1
    have H2 : Hid (PMaps w S bb bv bw m) := h2
    have HD : Hid (Calls Tryz.prog 76 #[.slice (some ⟨g, off, none⟩) (r.length + 1) cap, .int .i64 0, .int .i64 1] w fun e w' => e = .returned (.slice (some ⟨g, off, none⟩) r.length cap) ∧ Row w' (fun k => k = g) 9 1 (.slice (some ⟨g, off, none⟩) r.length cap) r.length (r.flatMap scells) ∧ Fr (fun k => k = g) w w') := hd
    have HC : Hid (w.heap[g]? = some (.cells C 9 (0, 0))) := hC
    have HQ : Hid (m.queue = c :: r) := hqq
    have hgp : g ≠ p := fun e => h1.off 0 _ rfl (by rw [e]; rfl)
    have lp := lt_at h1.box
    have i1 : (0 : Int) < ((r.length + 1 : Nat) : Int) := by omega
    clear hr h1 h2 h hd hC hqq
    go_enter Tryz.func61, Tryz.ntmps61
    go_wp2_with (go_at_call 76; refine HD.out.mono ?_; rintro e w1 ⟨rfl, r1, f1⟩; have d17 : w1.cell? ⟨p, 17, none⟩ = some (.slice (some ⟨g, off, none⟩) (r.length + 1) cap) := (World.cell?_of_block (f1.block p lp (fun e => hgp e.symm))).trans c17; have fz1 : ∀ i, w1.frozen? ⟨p, i, none⟩ = false := fun i => (World.frozen?_of_block (f1.block p lp (fun e => hgp e.symm))).trans (fz i); have R1 : Hid (Row w1 (fun k => k = g) 9 1 (.slice (some ⟨g, off, none⟩) r.length cap) r.length (r.flatMap scells)) := r1; have F1 : Hid (Fr (fun k => k = g) w w1) := f1; clear r1 f1)
    go_ret
    have hF1 : Fr (fun k => (Value.slice (some ⟨g, off, none⟩) (r.length + 1) cap).ownBlock = some k) w w1 := F1.out.mono (fun i hi => by rw [hi]; rfl)
    have hR1 : Row w1 (fun k => (Value.slice (some ⟨g, off, none⟩) (r.length + 1) cap).ownBlock = some k ∨ k = w.heap.size) 9 1 (.slice (some ⟨g, off, none⟩) r.length cap) r.length (r.flatMap scells) := R1.out.reown (fun k hk => .inl hk)
    have hb := H1.out.put (C' := qcells { m with queue := r } (.slice (some ⟨g, off, none⟩) r.length cap) vl bb bv bw) (V' := [.slice (some ⟨g, off, none⟩) r.length cap, vl]) (X' := qX { m with queue := r }) 0 rfl rfl _ (r.length, r.flatMap scells) hR1 hF1 17 rfl rfl rfl
    have hb2 := hb.shrink (S' := S) H1.out.sp (fun i v k hv hk => (hb.own hv hk).1.elim id (fun h => by cases h; exact hSg)) (fun k hk => .inl hk)
    have hF : Fr S w (w1.setCell ⟨p, 17, none⟩ (.slice (some ⟨g, off, none⟩) r.length cap)) := H1.out.frPut (Fr.refl _ _) 0 rfl hF1 17 _
    refine ⟨rfl, ⟨⟨_, vl, bb, bv, bw, hb2, ?_⟩, HP.out.tab.fr hF HP.out.t0, HP.out.t0⟩, hF⟩
    refine ((H2.out.model (m' := { m with queue := r }) rfl rfl rfl rfl (Int.le_refl _) (Int.le_refl _)).aside F1.out (fun k hk => ⟨C, 9, (0, 0), by rw [hk]; exact HC.out⟩) (fun _ h => h)).aside (Fr.setCell (S := fun k => k = p) w1 rfl _) (fun k hk => ?_) (fun _ h => h)
    rw [hk]
    exact ⟨_, _, _, (F1.out.block p lp (fun e => hgp e.symm)).trans H1.out.box⟩
/-- knows. -/
theorem pknows (w : World) (p : Nat) (S : Nat → Prop) (m : Mem) (h : PMem w p S m) (n : Nat) (hn : n < 18446744073709551616) (v : Int) :
    Calls Tryz.prog 112 #[.pointer (some ⟨p, 0, none⟩), .int .u64 n, .int .i64 v] w fun e w' => e = .returned (.bool ((m.block n).isSome && ((m.block n).getD Blk.zero).view == v)) ∧ Below w.heap.size w w' := by
  obtain ⟨vq, vl, bb, bv, bw, g1, g2⟩ := h.ex
  have c19 : w.cell? ⟨p, 19, none⟩ = some (.map (some bb)) := cell_at g1.box 19
  obtain ⟨k, hk, mb⟩ := g2.mb
  have MB : Hid (IMap Tryz.prog 36 .u64 isBlk w bb k (bmap m)) := mb
  have hx1 := bmap_get m n
  have hx2 := bmap_some m n
  clear g1 g2 mb h
  generalize (m.block n).isSome = kn at *
  generalize (m.block n).getD Blk.zero = x at *
  obtain ⟨xv, ⟨xjv, xjb, x0, x1, x2, x3⟩, xc⟩ := x
  dsimp only [Blk.val, Blk.cells] at hx1 ⊢
  cases kn <;> (
    go_enter Tryz.func112, Tryz.ntmps112
    go_wp2_with (at_lookup; refine wpList_lookB rfl (.tmp 13) (.tmp 14) rfl rfl MB.out Tryz.underlying36 Tryz.underlying78 _ (zero_blk _) ⟨_, rfl⟩ n rfl (wf_u64 hn) _ _ hx1 hx2 ?_)
    go_ret
    first | exact ⟨rfl, below_alloc _ _⟩ | exact ⟨by simp, below_alloc _ _⟩)
theorem below_drewN {n : Nat} {w W : World} (h : Below n w W) (k : Nat) : Below n w (W.drewN k) := ⟨h.os, h.tape, h.output, h.size, h.block⟩
set_option maxHeartbeats 2000000 in
set_option maxRecDepth 100000 in
theorem pmay (w : World) (p : Nat) (S : Nat → Prop) (m : Mem) (h : PMem w p S m) (v0 : 1 ≤ m.view) (v1 : m.view ≤ 1000) (hE : (rl (m.entered m.view)).cnt = (m.entered m.view).length) :
    Calls Tryz.prog 59 #[.pointer (some ⟨p, 0, none⟩)] w fun e w' => e = .returned (.bool m.may) ∧ Below w.heap.size w w' := by
  obtain ⟨vq, vl, bb, bv, bw, g1, g2⟩ := h.ex
  have hs := h.see
  have c0 := hs.c0
  have c2 := hs.c2
  have c5 := hs.c5
  have c21 : w.cell? ⟨p, 21, none⟩ = some (.map (some bw)) := cell_at g1.box 21
  have lp := hs.lt
  obtain ⟨n, f, hn, mw, ow⟩ := g2.mw
  have hz := ow.ok m.view (Int.le_refl _)
  have hlk : ∀ W : World, W.heap[bw]? = w.heap[bw]? → (Instr.lookup 80 (.map (some bw)) (.int .i64 m.view) false).run Tryz.prog W = .ok (recV (vr m m.view)) W := fun W hW => by
    have := (mw.same hW).look Tryz.underlying3 Tryz.underlying80 (zero_rec W) ⟨_, rfl⟩ m.view (wf_i64 (by omega) (by omega))
    rw [hz] at this
    exact this
  have lw := mw.lt
  have hmay : m.may = (m.view % 4 == m.id && !(vr m m.view).p && (m.high.view == m.view - 1 || decide (3 ≤ (vr m m.view).r.cnt))) := by
    unfold Mem.may
    show _ = (m.view % 4 == m.id && !m.proposed.contains m.view && (m.high.view == m.view - 1 || decide (3 ≤ (rl (m.entered m.view)).cnt)))
    rw [hE]; rfl
  rw [hmay]
  clear hmay hz hE ow mw g1 g2 hs h
  have hwr : IntKind.i64.wrap (m.view - 1) = m.view - 1 := by rw [IntKind.wrap_i64]; omega
  have HLD : Hid (∀ W : World, Calls Tryz.prog 74 #[.int .i64 m.view] W fun e w' => e = .returned (.int .i64 (m.view % 4)) ∧ w' = W) := fun W => pleader W m.view (by omega)
  generalize hq4 : m.view % 4 = q4 at HLD ⊢
  generalize vr m m.view = x at *
  obtain ⟨xp, xr⟩ := x
  have HFU : Hid (∀ W : World, Calls Tryz.prog 75 #[rollV xr] W fun e w' => e = .returned (.bool (decide (3 ≤ xr.cnt))) ∧ Below W.heap.size W w') := fun W => pfull W xr
  generalize xr.cnt = xc at *
  obtain ⟨xa, xb, xc', xd⟩ := xr
  dsimp only [recV, rollV] at hlk HFU ⊢
  obtain ⟨R, hR⟩ : ∃ r, r = (q4 == m.id && !xp && (m.high.view == m.view - 1 || decide (3 ≤ xc))) := ⟨_, rfl⟩
  rw [← hR]
  have HR : Hid (R = (q4 == m.id && !xp && (m.high.view == m.view - 1 || decide (3 ≤ xc)))) := hR
  clear hR
  have k1 := hlk w.drew rfl
  have k2 := fun o => hlk (w.alloc o).drew (Below.heap_alloc _ _ _ lw)
  clear hlk
  go_enter Tryz.func59, Tryz.ntmps59
  go_wp2
  go_region
  have hbx : (w.alloc (.cells #[.bool xp, .bool xa, .bool xb, .bool xc', .bool xd] 121)).drew.heap[w.heap.size]? = some (.cells #[.bool xp, .bool xa, .bool xb, .bool xc', .bool xd] 121 (0, 0)) := heap_alloc_new w _
  have hbl : Below w.heap.size w (w.alloc (.cells #[.bool xp, .bool xa, .bool xb, .bool xc', .bool xd] 121)).drew := (below_alloc w _).drew
  generalize (w.alloc (.cells #[.bool xp, .bool xa, .bool xb, .bool xc', .bool xd] 121)).drew = W at *
  have d0 := (hbl.cell (p := ⟨p, 0, none⟩) lp).trans c0
  have d2 := (hbl.cell (p := ⟨p, 2, none⟩) lp).trans c2
  have d5 := (hbl.cell (p := ⟨p, 5, none⟩) lp).trans c5
  have e0 : W.cell? ⟨w.heap.size, 0, none⟩ = some (.bool xp) := cell_at hbx 0
  have e1 : W.cell? ⟨w.heap.size, 1, none⟩ = some (.bool xa) := cell_at hbx 1
  have e2 : W.cell? ⟨w.heap.size, 2, none⟩ = some (.bool xb) := cell_at hbx 2
  have e3 : W.cell? ⟨w.heap.size, 3, none⟩ = some (.bool xc') := cell_at hbx 3
  have e4 : W.cell? ⟨w.heap.size, 4, none⟩ = some (.bool xd) := cell_at hbx 4
  have HB : Hid (Below w.heap.size w W) := hbl
  have ltw := lt_at hbx
  have ltp : p < W.heap.size := by omega
  clear hbx hbl k1 k2 c0 c2 c5 c21
  by_cases h1 : q4 = m.id
  · have h1' : (q4 == m.id) = true := by simp [h1]
    have h1n : (q4 != m.id) = false := by simp [h1]
    cases xp
    · by_cases h5 : m.high.view = m.view - 1
      · have h5' : (m.high.view == m.view - 1) = true := by simp [h5]
        go_wp2
        go_quiet ((go_at_call 74; exact Calls.quiet_of_same (HLD.out _)))
        go_wp2
        go_quiet (fail)
        go_wp2
        go_ret
        exact ⟨by rw [HR.out]; simp_all, by first | exact below_drewN HB.out _ | exact below_drewN (below_drewN HB.out _) _⟩
      · have h5' : (m.high.view == m.view - 1) = false := by simp [h5]
        go_wp2
        go_quiet ((go_at_call 74; exact Calls.quiet_of_same (HLD.out _)))
        go_wp2
        have HS : Hid (∀ w', Below W.heap.size W w' → Below W.heap.size W w' ∧ w'.cell? ⟨p, 5, none⟩ = some (.int .i64 m.high.view) ∧ w'.cell? ⟨p, 2, none⟩ = some (.int .i64 m.view) ∧ w'.cell? ⟨w.heap.size, 1, none⟩ = some (.bool xa) ∧ w'.cell? ⟨w.heap.size, 2, none⟩ = some (.bool xb) ∧ w'.cell? ⟨w.heap.size, 3, none⟩ = some (.bool xc') ∧ w'.cell? ⟨w.heap.size, 4, none⟩ = some (.bool xd)) := fun w' hb' => ⟨hb', (hb'.cell (p := ⟨p, 5, none⟩) ltp).trans d5, (hb'.cell (p := ⟨p, 2, none⟩) ltp).trans d2, (hb'.cell (p := ⟨w.heap.size, 1, none⟩) ltw).trans e1, (hb'.cell (p := ⟨w.heap.size, 2, none⟩) ltw).trans e2, (hb'.cell (p := ⟨w.heap.size, 3, none⟩) ltw).trans e3, (hb'.cell (p := ⟨w.heap.size, 4, none⟩) ltw).trans e4⟩
        go_region_held3 (fun w' => Below W.heap.size W w' ∧ w'.cell? ⟨p, 5, none⟩ = some (.int .i64 m.high.view) ∧ w'.cell? ⟨p, 2, none⟩ = some (.int .i64 m.view) ∧ w'.cell? ⟨w.heap.size, 1, none⟩ = some (.bool xa) ∧ w'.cell? ⟨w.heap.size, 2, none⟩ = some (.bool xb) ∧ w'.cell? ⟨w.heap.size, 3, none⟩ = some (.bool xc') ∧ w'.cell? ⟨w.heap.size, 4, none⟩ = some (.bool xd))
          (first | (exact HS.out _ (bnext (And.left ‹Below W.heap.size W _ ∧ _›) (by assumption))) | (exact HS.out _ (below_drewN (Below.refl _ _) _).drew))
          ((go_at_call 75; refine (HFU.out _).mono ?_; rintro e w3 ⟨rfl, hb3⟩))
        have hh := bnext HB.out (And.left ‹Below W.heap.size W _ ∧ _›)
        go_wp2
        go_ret
        exact ⟨by rw [HR.out]; simp_all, hh⟩
    · go_wp2
      go_quiet ((go_at_call 74; exact Calls.quiet_of_same (HLD.out _)))
      go_wp2
      go_ret
      exact ⟨by rw [HR.out]; simp_all, by first | exact below_drewN HB.out _ | exact below_drewN (below_drewN HB.out _) _⟩
  · have h1' : (q4 == m.id) = false := by simp [h1]
    go_wp2
    go_quiet ((go_at_call 74; exact Calls.quiet_of_same (HLD.out _)))
    go_wp2
    go_ret
    exact ⟨by rw [HR.out]; simp_all, by first | exact below_drewN HB.out _ | exact below_drewN (below_drewN HB.out _) _⟩
end Go.Proofs.YtkehpnobidendaaGreatDoor

namespace Go.Proofs.YtkehpnobidendaaGreatDoor
open Go.RowKit Go.Maps

theorem contains_snoc (l : List Int) (a v : Int) : (l ++ [a]).contains v = (l.contains v || decide (v = a)) := by
  simp
/-- The maps, when it has proposed. -/
theorem PMaps.notes {w w1 : World} {S : Nat → Prop} {bb bv bw : Nat} {m : Mem} (h : PMaps w S bb bv bw m) (hf : Fr (fun j => j = bw) w w1) {n : Nat} {f : Int → Option Value} (hn : n ≤ m.enters.length + m.proposed.length) (hw : WOk m f) (hi : IMap Tryz.prog 3 .i64 isRec w1 bw (n + 1) (putAt f m.view (recV ⟨true, (vr m m.view).r⟩))) : PMaps w1 S bb bv bw { m with proposed := m.proposed ++ [m.view] } := by
  have hl := h.lts
  refine ⟨h.sb, h.sv, h.sw, h.n1, h.n2, h.n3, ?_, ?_, ⟨n + 1, _, by simp; omega, hi, ⟨fun v hv => ?_⟩⟩⟩
  · obtain ⟨k, hk, hb⟩ := h.mb
    exact ⟨k, hk, hb.same (hf.block bb hl.1 h.n2)⟩
  · obtain ⟨k, g, hk, hb, o⟩ := h.mv
    exact ⟨k, g, hk, hb.same (hf.block bv hl.2.1 h.n3), ⟨o.ok, o.un⟩⟩
  · unfold putAt
    by_cases hvm : v = m.view
    · subst hvm
      rw [if_pos rfl]
      show recV _ = recV _
      unfold vr
      rw [contains_snoc]
      simp [Mem.entered]
    · rw [if_neg hvm]
      have := hw.ok v hv
      rw [this]
      unfold vr
      rw [contains_snoc]
      simp [Mem.entered, hvm]
set_option maxHeartbeats 2000000 in
set_option maxRecDepth 100000 in
theorem pnote (w : World) (p : Nat) (S : Nat → Prop) (m : Mem) (h : PMem w p S m) (v0 : 1 ≤ m.view) (v1 : m.view ≤ 1000) (hle : m.enters.length + m.proposed.length ≤ 1700000000000) :
    Calls Tryz.prog 60 #[.pointer (some ⟨p, 0, none⟩)] w fun e w' => e = .returned (.tuple #[]) ∧ PMem w' p S { m with proposed := m.proposed ++ [m.view] } ∧ Fr S w w' := by
  have HP : Hid (PMem w p S m) := h
  obtain ⟨vq, vl, bb, bv, bw, g1, g2⟩ := h.ex
  have c2 := h.see.c2
  have c21 : w.cell? ⟨p, 21, none⟩ = some (.map (some bw)) := cell_at g1.box 21
  have lp := h.see.lt
  obtain ⟨n, f, hn, mw, ow⟩ := g2.mw
  have hz := ow.ok m.view (Int.le_refl _)
  have hlk : ∀ W : World, W.heap[bw]? = w.heap[bw]? → (Instr.lookup 80 (.map (some bw)) (.int .i64 m.view) false).run Tryz.prog W = .ok (recV (vr m m.view)) W := fun W hW => by
    have := (mw.same hW).look Tryz.underlying3 Tryz.underlying80 (zero_rec W) ⟨_, rfl⟩ m.view (wf_i64 (by omega) (by omega))
    rw [hz] at this
    exact this
  have lw := mw.lt
  have hwn : bw ≠ w.heap.size := by omega
  have HFIN : Hid (∀ W1 W2 : World, Below w.heap.size w W1 → IMap Tryz.prog 3 .i64 isRec W2 bw (n + 1) (putAt f m.view (recV ⟨true, (vr m m.view).r⟩)) → Fr (fun j => j = bw) W1 W2 → PMem W2 p S { m with proposed := m.proposed ++ [m.view] } ∧ Fr S w W2) := fun W1 W2 hb hi hf => by
    have hg1 := g1.below hb
    have hg2 := (HP.out.below hb).tab
    have hg3 : PMaps W1 S bb bv bw m := g2.same (fun k hk _ => hb.block k (g1.lt k hk)) (fun _ h => h)
    refine ⟨PMem.stored hg1 hg3 (.inr (.inr rfl)) hg2 HP.out.t0 hf rfl rfl (hg3.notes hf hn ow hi), (Fr.of_below (S := S) hb).trans (hf.mono (S' := S) (fun i hi => by rw [hi]; exact g2.sw)) (fun _ h => .inl h)⟩
  have HMW : Hid (IMap Tryz.prog 3 .i64 isRec w bw n f) := mw
  generalize vr m m.view = x at *
  obtain ⟨xp, ⟨xa, xb, xc, xd⟩⟩ := x
  dsimp only [recV] at hlk HFIN ⊢
  have k1 := hlk w.drew rfl
  have k2 := fun o => hlk (w.alloc o).drew (Below.heap_alloc _ _ _ lw)
  clear hlk hz ow mw g1 g2 h
  go_enter Tryz.func60, Tryz.ntmps60
  go_wp2
  go_region
  have hbx : (w.alloc (.cells #[.bool xp, .bool xa, .bool xb, .bool xc, .bool xd] 121)).drew.heap[w.heap.size]? = some (.cells #[.bool xp, .bool xa, .bool xb, .bool xc, .bool xd] 121 (0, 0)) := heap_alloc_new w _
  have hbl : Below w.heap.size w (w.alloc (.cells #[.bool xp, .bool xa, .bool xb, .bool xc, .bool xd] 121)).drew := (below_alloc w _).drew
  generalize (w.alloc (.cells #[.bool xp, .bool xa, .bool xb, .bool xc, .bool xd] 121)).drew = W at *
  have e0 : W.cell? ⟨w.heap.size, 0, none⟩ = some (.bool xp) := cell_at hbx 0
  have fz := free_at hbx
  go_upto_region 2 with fail
  have hbx1 := heap_store hbx (i := 0) (.bool true)
  have hbl1 : Below w.heap.size w (W.setCell ⟨w.heap.size, 0, none⟩ (.bool true)) := hbl.setCell (p := ⟨w.heap.size, 0, none⟩) (Nat.le_refl _) _
  clear hbx hbl e0 fz k1 k2
  generalize W.setCell ⟨w.heap.size, 0, none⟩ (.bool true) = W1 at *
  have d2 := (hbl1.cell (p := ⟨p, 2, none⟩) lp).trans c2
  have d21 := (hbl1.cell (p := ⟨p, 21, none⟩) lp).trans c21
  have e0 : W1.cell? ⟨w.heap.size, 0, none⟩ = some (.bool true) := cell_at hbx1 0
  have e1 : W1.cell? ⟨w.heap.size, 1, none⟩ = some (.bool xa) := cell_at hbx1 1
  have e2 : W1.cell? ⟨w.heap.size, 2, none⟩ = some (.bool xb) := cell_at hbx1 2
  have e3 : W1.cell? ⟨w.heap.size, 3, none⟩ = some (.bool xc) := cell_at hbx1 3
  have e4 : W1.cell? ⟨w.heap.size, 4, none⟩ = some (.bool xd) := cell_at hbx1 4
  have HM1 : IMap Tryz.prog 3 .i64 isRec W1 bw n f := HMW.out.below hbl1
  obtain ⟨w4, hr4, mb4, hf4⟩ := (HM1.same (w' := W1.drew) rfl).store Tryz.underlying3 Tryz.underlying80 (by unfold maxLen; omega) m.view (wf_i64 (by omega) (by omega)) (.agg #[.bool true, .bool xa, .bool xb, .bool xc, .bool xd]) ⟨⟨true, ⟨xa, xb, xc, xd⟩⟩, rfl⟩
  have HF := HFIN.out W1 w4 hbl1 mb4 ((Fr.drew _ W1).trans hf4 (fun _ h => .inl h))
  have HFF : Hid (PMem w4 p S { m with proposed := m.proposed ++ [m.view] } ∧ Fr S w w4) := HF
  clear HF mb4 hf4 HM1 hbx1 HFIN HMW c2 c21
  go_wp2
  go_region
  all_goals (
    go_end0
    exact ⟨rfl, HFF.out.1, HFF.out.2⟩)
end Go.Proofs.YtkehpnobidendaaGreatDoor
