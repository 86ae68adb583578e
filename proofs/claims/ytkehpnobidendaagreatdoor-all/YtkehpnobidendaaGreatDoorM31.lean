/- What commit does to the program's member in memory: the log grows. -/
import Derived.Test.YtkehpnobidendaaGreatDoorM29
import Derived.Test.YtkehpnobidendaaGreatDoorM30
namespace Go.Proofs.YtkehpnobidendaaGreatDoor
open Go.RowKit Go.Maps

/-- append at numbers, kept whole in the walk. -/
def appU (args : Array Value) : Sem Value := Builtin.append_ #[57, 57] 57 args
theorem app_u (args : Array Value) : Builtin.append_ #[57, 57] 57 args = appU args := rfl
/-- The program's member, its blocks told by name. -/
structure POpen (W : World) (p : Nat) (S : Nat → Prop) (m : Mem) (vq vl : Value) (bb bv bw : Nat) : Prop where
  bun : Bun W p 82 S (qcells m vq vl bb bv bw) [vq, vl] qE (qX m)
  maps : PMaps W S bb bv bw m
  tab : Tab W
  t0 : ¬ S 0
theorem POpen.mem {W : World} {p : Nat} {S : Nat → Prop} {m : Mem} {vq vl : Value} {bb bv bw : Nat} (h : POpen W p S m vq vl bb bv bw) : PMem W p S m := ⟨⟨vq, vl, bb, bv, bw, h.bun, h.maps⟩, h.tab, h.t0⟩
theorem PMem.opens {W : World} {p : Nat} {S : Nat → Prop} {m : Mem} (h : PMem W p S m) : ∃ vq vl bb bv bw, POpen W p S m vq vl bb bv bw := by
  obtain ⟨vq, vl, bb, bv, bw, h1, h2⟩ := h.ex
  exact ⟨vq, vl, bb, bv, bw, h1, h2, h.tab, h.t0⟩
theorem POpen.below {W W' : World} {p : Nat} {S : Nat → Prop} {m : Mem} {vq vl : Value} {bb bv bw : Nat} (h : POpen W p S m vq vl bb bv bw) (hf : Below W.heap.size W W') : POpen W' p S m vq vl bb bv bw :=
  ⟨h.bun.below hf, h.maps.same (fun k hk _ => hf.block k (h.bun.lt k hk)) (fun _ h => h), h.tab.below hf, h.t0⟩
theorem POpen.fr {W W' : World} {p : Nat} {S Z : Nat → Prop} {m : Mem} {vq vl : Value} {bb bv bw : Nat} (h : POpen W p S m vq vl bb bv bw) (hf : Fr Z W W') (hz : ∀ k, S k → ¬ Z k) (hz0 : ¬ Z 0) : POpen W' p S m vq vl bb bv bw :=
  ⟨h.bun.fr hf hz, h.maps.same (fun k hk _ => hf.block k (h.bun.lt k hk) (hz k hk)) (fun _ h => h), h.tab.fr hf hz0, h.t0⟩
theorem Row.kept {W W' : World} {S : Nat → Prop} {e : TypeId} {size : Nat} {v : Value} {n : Nat} {xs : List Value} {row : Option Nat} (h : Row W S e size v n xs) (hg : W.grownBy W' row) (hr : ∀ r, row = some r → ∃ o : Obj, W.heap[r]? = some o ∧ o.isCells = false) : Row W' S e size v n xs := by
  refine ⟨h.1, ?_⟩
  rcases h.2 with hn | ⟨g, off, cap, cur, rfl, hS, hb, rest⟩
  · exact .inl hn
  · exact .inr ⟨g, off, cap, cur, rfl, hS, block_kept hb hg hr, rest⟩
theorem POpen.kept {B : Nat} {W W' : World} {p : Nat} {S : Nat → Prop} {m : Mem} {vq vl : Value} {bb bv bw : Nat} {row : Option Nat} (h : POpen W p S m vq vl bb bv bw) (hB : bb < B ∧ bv < B ∧ bw < B ∧ 0 < B) (hg : W.grownBy W' row) (hr : ∀ r, row = some r → B ≤ r ∧ ∃ o : Obj, W.heap[r]? = some o ∧ o.isCells = false) : POpen W' p S m vq vl bb bv bw := by
  have hlow : ∀ k, k < B → k < W.heap.size → W'.heap[k]? = W.heap[k]? := fun k hk hl => hg.block k hl (fun e => by have := (hr k e.symm).1; omega)
  have hl := h.maps.lts
  refine ⟨⟨h.bun.sp, block_kept h.bun.box hg (fun r e => (hr r e).2), fun i v e x a1 a2 a3 => (h.bun.row i v e x a1 a2 a3).kept hg (fun r e => (hr r e).2), h.bun.off, h.bun.apart, h.bun.all, fun k hk => Nat.lt_of_lt_of_le (h.bun.lt k hk) hg.size⟩, h.maps.same (fun k _ hk => ?_) (fun _ h => h), h.tab.same (hlow 0 hB.2.2.2 h.tab.pos), h.t0⟩
  rcases hk with rfl | rfl | rfl
  · exact hlow _ hB.1 hl.1
  · exact hlow _ hB.2.1 hl.2.1
  · exact hlow _ hB.2.2.1 hl.2.2
/-- What the log gets. -/
theorem POpen.grown {W : World} {p : Nat} {S : Nat → Prop} {m : Mem} {vq vl : Value} {bb bv bw : Nat} (h : POpen W p S m vq vl bb bv bw) (l : List Nat) (hl0 : 0 < l.length) (hb : m.log.length + l.length ≤ 1700000000000) {Z : Nat → Prop} {va : Value} (hra : Row W Z 36 1 va l.length (l.flatMap ncells)) :
    ∃ a' c' w1, (appU #[vl, va]).run Tryz.prog W = .ok (.slice a' (m.log.length + l.length) c') w1 ∧ Fr (fun k => vl.ownBlock = some k) W w1 ∧ w1.heap[p]? = some (.cells (qcells m vq vl bb bv bw) 82 (0, 0)) ∧
      ∃ S', POpen (w1.setCell ⟨p, 18, none⟩ (.slice a' (m.log.length + l.length) c')) p S' { m with log := m.log ++ l } vq (.slice a' (m.log.length + l.length) c') bb bv bw ∧ Grow S W S' ∧ Fr S W (w1.setCell ⟨p, 18, none⟩ (.slice a' (m.log.length + l.length) c')) := by
  have hr : Row W S 36 1 vl m.log.length (m.log.flatMap ncells) := h.bun.row 1 _ _ _ rfl rfl rfl
  obtain ⟨aa, ca, rfl⟩ := hra.isSlice
  obtain ⟨g, off, rfl, _, _, _⟩ := hra.place hl0
  obtain ⟨i0, hi0, hz0, hz1, hz2⟩ := info_parts info_u64
  obtain ⟨v', w1, hrun, hr', hf⟩ := run_append_row Tryz.prog W S 57 57 36 i0 (.int .u64 0) 1 8 Tryz.underlying57 hi0 hz0 hz1 hz2 rfl vl m.log.length (m.log.flatMap ncells) hr ⟨g, off, none⟩ l.length ca (l.flatMap ncells) hra.1
    (fun j u hj => by
      have hjl : j < l.length := by have := (List.getElem?_eq_some_iff.1 hj).1; rw [hra.1] at this; omega
      rw [Addr.add_lit, hra.cellAt j (by omega)]; exact hj)
    (fun u hu => by rw [ncells_map] at hu; obtain ⟨k, _, rfl⟩ := List.mem_map.1 hu; rfl) hl0 (by unfold maxLen; omega) (by omega)
  obtain ⟨a', c', rfl⟩ := hr'.isSlice
  have hbox := h.bun.after 1 rfl hf
  have hput := h.bun.put (C' := qcells { m with log := m.log ++ l } vq (.slice a' (m.log.length + l.length) c') bb bv bw) (V' := [vq, .slice a' (m.log.length + l.length) c']) (X' := qX { m with log := m.log ++ l }) 1 rfl rfl _ (m.log.length + l.length, m.log.flatMap ncells ++ l.flatMap ncells) hr' hf 18 rfl rfl (by simp [qX])
  have hF : Fr S W (w1.setCell ⟨p, 18, none⟩ (.slice a' (m.log.length + l.length) c')) := h.bun.frPut (Fr.refl _ _) 1 rfl hf 18 _
  refine ⟨a', c', w1, hrun, hf, hbox, _, ⟨hput, ?_, h.tab.fr hF h.t0, ?_⟩, grow_put hr' (Nat.le_refl _) (fun k hk => (hr.ownS hk).1), hF⟩
  · have hne := h.maps.ne h.bun.box
    have hlt := h.maps.lts
    have hns : ∀ k, (k = bb ∨ k = bv ∨ k = bw) → vl.ownBlock ≠ some k := fun k hk e => by
      rcases hr.2 with ⟨h0, _⟩ | ⟨g2, off2, cap2, cur, hv, _, hg2, _⟩
      · rw [h0] at e; cases e
      · rw [hv] at e; cases e
        have := h.maps.ne hg2
        rcases hk with rfl | rfl | rfl
        · exact this.1 rfl
        · exact this.2.1 rfl
        · exact this.2.2 rfl
    refine (h.maps.model (m' := { m with log := m.log ++ l }) rfl rfl rfl rfl (Int.le_refl _) (Int.le_refl _)).same (fun k _ hk => ?_) (fun k hk => .inl hk)
    rw [heap_store_ne _ (by rcases hk with rfl | rfl | rfl; exact hne.1; exact hne.2.1; exact hne.2.2)]
    have hkl : k < W.heap.size := by rcases hk with rfl | rfl | rfl; exact hlt.1; exact hlt.2.1; exact hlt.2.2
    exact hf.block k hkl (hns k hk)
  · rintro (h0 | h0)
    · exact h.t0 h0
    · have hsz := h.tab.pos
      rcases hr'.ownS h0 with ⟨h1 | h1, _⟩
      · exact h.t0 (hr.ownS h1).1
      · omega
end Go.Proofs.YtkehpnobidendaaGreatDoor
