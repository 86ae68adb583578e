/- The program's commit. The model: the way up from a block, the log as a way, and what the program's learn and commit make of a member are the document's. No program in it. The model: the program's commit and learn are the document's; the invariant that the program's side needs besides (Inv2), kept by every call. No program in it. -/
import Derived.Test.YtkehpnobidendaaGreatDoorM31
import Derived.Test.YtkehpnobidendaaGreatDoorM32
namespace Go.Proofs.YtkehpnobidendaaGreatDoor
open Go.RowKit Go.Maps Go.Shelf
attribute [local go_sem] Oper.semAt_some
attribute [local go_sem ↓] app_u

/-- The last one of the log. -/
def Mem.last (m : Mem) : Nat := m.log.getLastD 0
theorem plast (w : World) (p : Nat) (S : Nat → Prop) (m : Mem) (h : PMem w p S m) (hl : m.log.length ≤ 1700000000000) :
    Calls Tryz.prog 121 #[.pointer (some ⟨p, 0, none⟩)] w fun e w' => e = .returned (.int .u64 (m.last)) ∧ Below w.heap.size w w' := by
  rcases List.eq_nil_or_concat m.log with hn | ⟨l, z, hn⟩
  · refine (plastNil w p S m h hn).mono ?_
    rintro e w' ⟨rfl, rfl⟩
    have e : m.last = 0 := by unfold Mem.last; rw [hn]; rfl
    rw [e]
    exact ⟨rfl, Below.refl _ _⟩
  · have e : m.log = l ++ [z] := by simpa using hn
    refine (plastSome w p S m h l z e (by rw [e] at hl; simp at hl; omega)).mono ?_
    rintro e' w' ⟨rfl, hb⟩
    have e2 : m.last = z := by unfold Mem.last; rw [e, List.getLastD_eq_getLast?]; simp
    rw [e2]
    exact ⟨rfl, hb⟩
/-- What the program's commit makes of the member. -/
def Mem.pcommit (m : Mem) (d : Nat) (xs : List Nat) : Mem := if m.last ∈ xs then { m with log := m.log ++ (d :: xs.takeWhile (· != m.last)).reverse } else m
theorem pcommit_yes {m : Mem} {d : Nat} {pre : List U64} {x : U64} {xs : List U64} (hpre : pre ++ [x] <+: xs) (hn : ∀ y ∈ pre, y.1 ≠ m.last) (hx : x.1 = m.last) : m.pcommit d (xs.map (·.1)) = { m with log := m.log ++ (d :: pre.map (·.1)).reverse } := by
  obtain ⟨r, rfl⟩ := hpre
  have h1 : m.last ∈ (pre ++ [x] ++ r).map (·.1) := by simp [← hx]
  have h2 : ((pre ++ [x] ++ r).map (·.1)).takeWhile (· != m.last) = pre.map (·.1) := by
    rw [List.append_assoc, List.map_append, List.takeWhile_append_of_pos (by
      intro y hy
      obtain ⟨z, hz, rfl⟩ := List.mem_map.1 hy
      simp [hn z hz])]
    simp [hx]
  unfold Mem.pcommit
  rw [if_pos h1, h2]
theorem pcommit_no {m : Mem} {d : Nat} {xs : List U64} (hn : ∀ y ∈ xs, y.1 ≠ m.last) : m.pcommit d (xs.map (·.1)) = m := by
  unfold Mem.pcommit
  rw [if_neg]
  intro h
  obtain ⟨z, hz, e⟩ := List.mem_map.1 h
  exact hn z hz e
/-- How commit's loop stands: s: the member's box; a: that of the last one, the first slice, the slice's box, then those of ahead. -/
structure CI (w W : World) (s a p last d : Nat) (pre : List U64) : Prop where
  b0 : W.heap[s]? = some (.cells #[.pointer (some ⟨p, 0, none⟩)] 47 (0, 0))
  b1 : W.heap[a]? = some (.cells #[.int .u64 last] 36 (0, 0))
  v : ∃ v, W.heap[a + 1 + 1]? = some (.cells #[v] 57 (0, 0)) ∧ Row W (fun k => k = a + 1 ∨ a + 1 + 1 + 1 + 1 + 1 ≤ k) 36 1 v (d :: pre.map (·.1)).length ((d :: pre.map (·.1)).flatMap ncells)
  no : ∀ y ∈ pre, y.1 ≠ last
  bl : Below w.heap.size w W
  sz : a + 1 + 1 + 1 + 1 + 1 ≤ W.heap.size
theorem ci_own (w : World) (s a p last d B : Nat) (h : w.heap.size ≤ B) : OwnFrom B (fun pre W => CI w W s a p last d pre) := fun _ W W' row hs hg hr => by
  obtain ⟨v, h1, h2⟩ := hs.v
  have hr' : ∀ r, row = some r → ∃ o : Obj, W.heap[r]? = some o ∧ o.isCells = false := fun r e => (hr r e).2
  exact ⟨block_kept hs.b0 hg hr', block_kept hs.b1 hg hr', ⟨v, block_kept h1 hg hr', h2.kept hg hr'⟩, hs.no, ownFrom_below (β := Unit) (Nat.le_refl _) h () W W' row hs.bl hg hr, Nat.le_trans hs.sz hg.size⟩
theorem keepsOthers_fr {Z : Nat → Prop} {W W' : World} (hf : Fr Z W W') (hz : ∀ k, Z k → ∃ C t z, W.heap[k]? = some (.cells C t z)) : KeepsOthers W W' :=
  ⟨hf.size, fun k o hk ho => (hf.block k (Array.getElem?_eq_some_iff.1 hk).1 (fun h => by
    obtain ⟨C, t, z, e⟩ := hz k h
    rw [hk] at e; cases e
    simp [Obj.isCells] at ho)).trans hk⟩
theorem Row.ownCells {W : World} {S : Nat → Prop} {e : TypeId} {size : Nat} {v : Value} {n : Nat} {xs : List Value} (h : Row W S e size v n xs) (k : Nat) (hk : v.ownBlock = some k) : ∃ C t z, W.heap[k]? = some (.cells C t z) := by
  rcases h.2 with ⟨rfl, _⟩ | ⟨g, off, cap, cur, rfl, hS, hb, rest⟩
  · cases hk
  · cases hk; exact ⟨_, _, _, hb⟩
/-- One more is gathered. -/
theorem CI.grow {w W : World} {a p last d : Nat} {pre : List U64} (h : CI w W w.heap.size a p last d pre) (ha : w.heap.size < a) (x : U64) (hx : x.1 ≠ last) (hb : pre.length + 1 ≤ 1700000000000) :
    ∃ a0 c0 a' c' W4, W.heap[a + 1 + 1]? = some (.cells #[.slice a0 (pre.length + 1) c0] 57 (0, 0)) ∧ (appU #[.slice a0 (pre.length + 1) c0, .slice (some ⟨W.heap.size, 0, none⟩) 1 1]).run Tryz.prog (W.alloc (.cells #[.int .u64 x.1] 36)) = .ok (.slice a' (pre.length + 1 + 1) c') W4 ∧
      W4.heap[a + 1 + 1]? = some (.cells #[.slice a0 (pre.length + 1) c0] 57 (0, 0)) ∧ CI w (W4.setCell ⟨a + 1 + 1, 0, none⟩ (.slice a' (pre.length + 1 + 1) c')) w.heap.size a p last d (pre ++ [x]) ∧
      Keep w.heap.size (a + 1 + 1 + 1) W (W4.setCell ⟨a + 1 + 1, 0, none⟩ (.slice a' (pre.length + 1 + 1) c')) ∧ KeepsOthers W (W4.setCell ⟨a + 1 + 1, 0, none⟩ (.slice a' (pre.length + 1 + 1) c')) := by
  obtain ⟨v, hv, hr⟩ := h.v
  have hlen : (d :: pre.map (·.1)).length = pre.length + 1 := by simp
  rw [hlen] at hr
  obtain ⟨a0, c0, rfl⟩ := hr.isSlice
  have hsz := h.sz
  obtain ⟨i0, hi0, hz0, hz1, hz2⟩ := info_parts info_u64
  obtain ⟨v', W4, hrun, hr', hf⟩ := run_append_row Tryz.prog (W.alloc (.cells #[.int .u64 x.1] 36)) _ 57 57 36 i0 (.int .u64 0) 1 8 Tryz.underlying57 hi0 hz0 hz1 hz2 rfl _ _ _ (hr.alloc _) ⟨W.heap.size, 0, none⟩ 1 1 [.int .u64 x.1] rfl
    (fun j u hj => by
      cases j with
      | zero => simp at hj; subst hj; exact (cell_box (new_box _ _ _)).1
      | succ j => simp at hj)
    (fun u hu => by simp at hu; subst hu; rfl) (by omega) (by unfold maxLen; omega) (by omega)
  obtain ⟨a', c', rfl⟩ := hr'.isSlice
  have hown : ∀ k, (Value.slice a0 (pre.length + 1) c0).ownBlock = some k → k = a + 1 ∨ a + 1 + 1 + 1 + 1 + 1 ≤ k := fun k hk => (hr.ownS hk).1
  have hbA : Below W.heap.size W (W.alloc (.cells #[.int .u64 x.1] 36)) := below_alloc _ _
  have keep : ∀ k, k < W.heap.size → k ≠ a + 1 → k < a + 1 + 1 + 1 + 1 + 1 → W4.heap[k]? = W.heap[k]? := fun k h1 h2 h3 => (hf.block k (by rw [World.size_alloc]; omega) (fun e => by have := hown k e; omega)).trans (hbA.block k h1)
  have hsz4 : W.heap.size + 1 ≤ W4.heap.size := by have := hf.size; rwa [World.size_alloc] at this
  have e2 := (keep (a + 1 + 1) (by omega) (by omega) (by omega)).trans hv
  have hB4 : Below w.heap.size W W4 := ⟨hf.os, hf.tape, hf.output, by omega, fun k hk => keep k (by have := h.bl.size; omega) (by omega) (by omega)⟩
  have hbl : Below w.heap.size W (W4.setCell ⟨a + 1 + 1, 0, none⟩ (.slice a' (pre.length + 1 + 1) c')) := hB4.setCell (p := ⟨a + 1 + 1, 0, none⟩) (by show w.heap.size ≤ a + 1 + 1; omega) _
  refine ⟨a0, c0, a', c', W4, hv, hrun, e2, ?_, ⟨hbl, ?_⟩, ?_⟩
  · refine ⟨(heap_store_ne _ (by omega)).trans ((keep _ (by omega) (by omega) (by omega)).trans h.b0), (heap_store_ne _ (by omega)).trans ((keep _ (by omega) (by omega) (by omega)).trans h.b1), ⟨_, heap_store e2 _, ?_⟩, ?_, h.bl.trans hbl, by rw [World.size_setCell]; omega⟩
    · have e1 : (d :: (pre ++ [x]).map (·.1)).length = pre.length + 1 + 1 := by simp
      have e3 : (d :: (pre ++ [x]).map (·.1)).flatMap ncells = (d :: pre.map (·.1)).flatMap ncells ++ [.int .u64 x.1] := by simp [ncells]
      rw [e1, e3]
      refine (hr'.same (w' := W4.setCell ⟨a + 1 + 1, 0, none⟩ (.slice a' (pre.length + 1 + 1) c')) (S' := fun k => k = a + 1 ∨ a + 1 + 1 + 1 + 1 + 1 ≤ k) (fun k hk _ => ?_))
      have hk' : k = a + 1 ∨ a + 1 + 1 + 1 + 1 + 1 ≤ k := by
        rcases hk with hk | hk
        · exact hown k hk
        · rw [World.size_alloc] at hk; omega
      exact ⟨heap_store_ne _ (by omega), hk'⟩
    · intro y hy
      rcases List.mem_append.1 hy with h1 | h1
      · exact h.no y h1
      · simp at h1; subst h1; exact hx
  · exact (heap_store_ne _ (by omega)).trans (keep _ (by omega) (by omega) (by omega))
  · refine (((KeepsOthers.alloc W _).trans (keepsOthers_fr hf (fun k hk => ?_))).trans (KeepsOthers.setCell _ _ _))
    exact (hr.alloc _).ownCells k hk
/-- What holds when the loop is left. -/
structure CX (w W : World) (p : Nat) (S : Nat → Prop) (m' : Mem) (vq : Value) (bb bv bw : Nat) : Prop where
  ex : ∃ vl S', POpen W p S' m' vq vl bb bv bw ∧ Grow S w S'
  fr : Fr S w W
theorem CX.kept {w W W' : World} {p : Nat} {S : Nat → Prop} {m' : Mem} {vq : Value} {bb bv bw B : Nat} {row : Option Nat} (h : CX w W p S m' vq bb bv bw) (hB : bb < B ∧ bv < B ∧ bw < B ∧ 0 < B) (hw : w.heap.size ≤ B) (hg : W.grownBy W' row) (hr : ∀ r, row = some r → B ≤ r ∧ ∃ o : Obj, W.heap[r]? = some o ∧ o.isCells = false) : CX w W' p S m' vq bb bv bw := by
  obtain ⟨vl, S', h1, h2⟩ := h.ex
  refine ⟨⟨vl, S', h1.kept hB hg hr, h2⟩, h.fr.trans (Fr.grown (S := fun k => B ≤ k) hg (fun k e => (hr k e).1)) (fun i hi => .inr (by omega))⟩
/-- The last step: what was gathered, turned round, is put behind the log. -/
theorem CI.leave {w W W3 : World} {a p last d : Nat} {pre : List U64} (h : CI w W w.heap.size a p last d pre) (ha : w.heap.size < a) {S : Nat → Prop} {m : Mem} {vq vl : Value} {bb bv bw : Nat} (hp : POpen w p S m vq vl bb bv bw) (hb : m.log.length + pre.length + 1 ≤ 1700000000000)
    {a0 : Option Addr} {c0 : Nat} (hv : W.heap[a + 1 + 1]? = some (.cells #[.slice a0 (pre.length + 1) c0] 57 (0, 0))) (hr : Row W (fun k => k = a + 1 ∨ a + 1 + 1 + 1 + 1 + 1 ≤ k) 36 1 (.slice a0 (pre.length + 1) c0) (pre.length + 1) ((d :: pre.map (·.1)).flatMap ncells))
    (hr3 : Row W3 (fun k => k = a + 1 ∨ a + 1 + 1 + 1 + 1 + 1 ≤ k) 36 1 (.slice a0 (pre.length + 1) c0) (pre.length + 1) ((d :: pre.map (·.1)).reverse.flatMap ncells)) (hf3 : Fr (fun k => (Value.slice a0 (pre.length + 1) c0).ownBlock = some k) W W3) :
    ∃ al cl a' c' w1, vl = .slice al m.log.length cl ∧ W3.cell? ⟨w.heap.size, 0, none⟩ = some (.pointer (some ⟨p, 0, none⟩)) ∧ W3.cell? ⟨p, 18, none⟩ = some (.slice al m.log.length cl) ∧ W3.cell? ⟨a + 1 + 1, 0, none⟩ = some (.slice a0 (pre.length + 1) c0) ∧
      (appU #[.slice al m.log.length cl, .slice a0 (pre.length + 1) c0]).run Tryz.prog W3.drew = .ok (.slice a' (m.log.length + (pre.length + 1)) c') w1 ∧
      w1.cell? ⟨w.heap.size, 0, none⟩ = some (.pointer (some ⟨p, 0, none⟩)) ∧ w1.cell? ⟨p, 18, none⟩ = some (.slice al m.log.length cl) ∧ w1.cell? ⟨a + 1 + 1, 0, none⟩ = some (.slice a0 (pre.length + 1) c0) ∧ w1.frozen? ⟨p, 18, none⟩ = false ∧
      CX w (w1.setCell ⟨p, 18, none⟩ (.slice a' (m.log.length + (pre.length + 1)) c')) p S { m with log := m.log ++ (d :: pre.map (·.1)).reverse } vq bb bv bw ∧ KeepsOthers W (w1.setCell ⟨p, 18, none⟩ (.slice a' (m.log.length + (pre.length + 1)) c')) := by
  have hsz := h.sz
  have hpl : p < w.heap.size := lt_at hp.bun.box
  have hown : ∀ k, (Value.slice a0 (pre.length + 1) c0).ownBlock = some k → k = a + 1 ∨ a + 1 + 1 + 1 + 1 + 1 ≤ k := fun k hk => (hr.ownS hk).1
  have hP3 : POpen W3 p S m vq vl bb bv bw := ((hp.below h.bl).fr hf3 (fun k hk e => by have := hown k e; have := hp.bun.lt k hk; omega) (fun e => by have := hown 0 e; omega))
  have hP3d : POpen W3.drew p S m vq vl bb bv bw := hP3.below ⟨rfl, rfl, rfl, Nat.le_refl _, fun _ _ => rfl⟩
  have hrl : Row w S 36 1 vl m.log.length (m.log.flatMap ncells) := hp.bun.row 1 _ _ _ rfl rfl rfl
  obtain ⟨al, cl, rfl⟩ := hrl.isSlice
  have hll : (d :: pre.map (·.1)).reverse.length = pre.length + 1 := by simp
  have hg := hP3d.grown (d :: pre.map (·.1)).reverse (by rw [hll]; omega) (by rw [hll]; omega) (va := .slice a0 (pre.length + 1) c0) (Z := fun k => k = a + 1 ∨ a + 1 + 1 + 1 + 1 + 1 ≤ k) (by rw [hll]; exact hr3.drew)
  rw [hll] at hg
  obtain ⟨a', c', w1, hrun, hf1, hbox, S', hP', hG', hF'⟩ := hg
  have b0 := (hf3.block _ (by omega) (fun e => by have := hown _ e; omega)).trans h.b0
  have b2 := (hf3.block _ (by omega) (fun e => by have := hown _ e; omega)).trans hv
  have hs3 : W.heap.size ≤ W3.heap.size := hf3.size
  have hlog : ∀ k, (Value.slice al m.log.length cl).ownBlock = some k → k < w.heap.size := fun k hk => (hrl.ownS hk).2
  have d0 := (hf1.block w.heap.size (by show w.heap.size < W3.heap.size; omega) (fun e => by have := hlog _ e; omega)).trans b0
  have d2 := (hf1.block (a + 1 + 1) (by show a + 1 + 1 < W3.heap.size; omega) (fun e => by have := hlog _ e; omega)).trans b2
  have hwb : w.heap.size ≤ W.heap.size := h.bl.size
  refine ⟨al, cl, a', c', w1, rfl, (cell_box b0).1, cell_at hP3.bun.box 18, (cell_box b2).1, hrun, (cell_box d0).1, cell_at hbox 18, (cell_box d2).1, free_at hbox _, ⟨⟨_, S', hP', fun k hk => ?_⟩, ?_⟩, ?_⟩
  · rcases hG' k hk with h1 | h1
    · exact .inl h1
    · have h1' : W3.heap.size ≤ k := h1
      exact .inr (by omega)
  · refine (((Fr.of_below h.bl).trans hf3 (fun k hk => ?_)).trans (Fr.drew S W3) (fun _ h => .inl h)).trans hF' (fun _ h => .inl h)
    have := hown k hk
    exact .inr (by omega)
  · refine (((keepsOthers_fr hf3 (fun k hk => hr.ownCells k hk)).trans (KeepsOthers.drew _)).trans (keepsOthers_fr hf1 (fun k hk => ?_))).trans (KeepsOthers.setCell _ _ _)
    exact (hP3d.bun.row 1 _ _ _ rfl rfl rfl : Row W3.drew S 36 1 _ m.log.length (m.log.flatMap ncells)).ownCells k hk
set_option maxRecDepth 100000 in
set_option maxHeartbeats 2000000 in
theorem pcommit (w : World) (p : Nat) (S : Nat → Prop) (m : Mem) (h : PMem w p S m) (d : Nat) (hd : d < 18446744073709551616) (xs : List U64) (hx : Ways m d xs) (hb : m.log.length + xs.length + 1 ≤ 1700000000000) :
    Calls Tryz.prog 114 #[.pointer (some ⟨p, 0, none⟩), .int .u64 d] w fun e w' => e = .returned (.tuple #[]) ∧ ∃ S', PMem w' p S' (m.pcommit d (xs.map (·.1))) ∧ Grow S w S' ∧ Fr S w w' := by
  refine (callsIn_wide (n := 3)).1 ?_
  refine callsIn_of_wp_marks Tryz.func114 rfl trivial ?_ rfl
  simp only [Tryz.ntmps114, List.size_toArray, List.length_cons, List.length_nil, Nat.reduceAdd, Nat.reduceSub, Array.replicate_succ, Array.replicate_zero, List.push_toArray, List.append_toArray, List.nil_append, List.cons_append]
  obtain ⟨last, hlast⟩ : ∃ l, l = m.last := ⟨_, rfl⟩
  have HP : Hid (PMem w p S m) := h
  have HB0 : Hid (Below w.heap.size w (w.alloc (.cells #[.pointer (some ⟨p, 0, none⟩)] 47))) := below_alloc _ _
  have HL : Hid (Calls Tryz.prog 121 #[.pointer (some ⟨p, 0, none⟩)] (w.alloc (.cells #[.pointer (some ⟨p, 0, none⟩)] 47)) fun e w' => e = .returned (.int .u64 last) ∧ Below (w.alloc (.cells #[.pointer (some ⟨p, 0, none⟩)] 47)).heap.size (w.alloc (.cells #[.pointer (some ⟨p, 0, none⟩)] 47)) w') := by
    rw [hlast]; exact plast _ p S m (HP.out.below HB0.out) (by omega)
  have HLA : Hid (last = m.last) := hlast
  clear h hlast
  gi_wp2_with (first
    | (refine ⟨trivial, ?_⟩; gi_at_call 121; refine (callsIn_wide.2 HL.out).mono ?_; rintro e W1 ⟨rfl, hb1⟩; have hW1 : Below w.heap.size w W1 := bnext HB0.out hb1; have hx1 : W1.heap[w.heap.size]? = some (.cells #[.pointer (some ⟨p, 0, none⟩)] 47 (0, 0)) := (hb1.block _ (by simp)).trans (new_box _ _ _); have hsl : w.heap.size < W1.heap.size := lt_at hx1; have hx2 := (Below.heap_alloc ((W1.alloc (.cells #[.int .u64 last] 36)).alloc (.cells #[.int .u64 d] 36)) (.cells #[.slice (some ⟨W1.heap.size + 1, 0, none⟩) 1 1] 57) w.heap.size (by simp; omega)).trans ((Below.heap_alloc (W1.alloc (.cells #[.int .u64 last] 36)) (.cells #[.int .u64 d] 36) w.heap.size (by simp; omega)).trans ((Below.heap_alloc W1 (.cells #[.int .u64 last] 36) w.heap.size hsl).trans hx1)); have hbx := (cell_box hx2).1; have HX1 : Hid (W1.heap[w.heap.size]? = some (.cells #[.pointer (some ⟨p, 0, none⟩)] 47 (0, 0)) ∧ Below w.heap.size w W1 ∧ w.heap.size < W1.heap.size) := ⟨hx1, hW1, hsl⟩; clear hx1 hW1 hsl hx2 hb1)
    | (refine ⟨trivial, ?_⟩; gi_at_call 120; refine (pahead _ _ _ _).mono ?_; rintro e w' ⟨rfl, rfl⟩))
  obtain ⟨W2, hW2⟩ : ∃ W2, W2 = ((W1.alloc (.cells #[.int .u64 last] 36)).alloc (.cells #[.int .u64 d] 36)).alloc (.cells #[.slice (some ⟨W1.heap.size + 1, 0, none⟩) 1 1] 57) := ⟨_, rfl⟩
  have hB2 : Below W1.heap.size W1 W2 := by rw [hW2]; exact bnext (bnext (below_alloc _ _) (below_alloc _ _)) (below_alloc _ _)
  have hs2 : W2.heap.size = W1.heap.size + 1 + 1 + 1 := by rw [hW2]; simp
  have k0 : W2.heap[W1.heap.size]? = some (.cells #[.int .u64 last] 36 (0, 0)) := by rw [hW2]; exact (Below.heap_alloc _ _ _ (by simp only [World.size_alloc]; omega)).trans ((Below.heap_alloc _ _ _ (by simp)).trans (new_box _ _ _))
  have k1 : W2.heap[W1.heap.size + 1]? = some (.cells #[.int .u64 d] 36 (0, 0)) := by rw [hW2]; exact (Below.heap_alloc _ _ _ (by simp)).trans (new_at _ (by simp))
  have k2 : W2.heap[W1.heap.size + 1 + 1]? = some (.cells #[.slice (some ⟨W1.heap.size + 1, 0, none⟩) 1 1] 57 (0, 0)) := by rw [hW2]; exact new_at _ (by simp)
  rw [← hW2]
  clear hW2 hbx
  obtain ⟨hx1, hW1, hsl⟩ := HX1.out
  have hBW2 : Below w.heap.size w W2 := bnext hW1 hB2
  obtain ⟨bb', nn', hbb, hpl, hse⟩ := sees_start HP.out hBW2 d
  have b3 : ((W2.alloc (.cells #[.pointer (some ⟨p, 0, none⟩)] 47)).alloc (.cells #[.int .u64 d] 36)).heap[W2.heap.size + 1]? = some (.cells #[.int .u64 d] 36 (0, 0)) := new_at _ (by simp)
  obtain ⟨W3, hW3⟩ : ∃ W3, W3 = (W2.alloc (.cells #[.pointer (some ⟨p, 0, none⟩)] 47)).alloc (.cells #[.int .u64 d] 36) := ⟨_, rfl⟩
  rw [← hW3] at hse b3 ⊢
  have hB3 : Below W2.heap.size W2 W3 := by rw [hW3]; exact bnext (below_alloc _ _) (below_alloc _ _)
  have hs3 : W3.heap.size = W2.heap.size + 1 + 1 := by rw [hW3]; simp
  clear hW3
  rw [hs2] at hs3 hse b3
  have hci : CI w W3 w.heap.size W1.heap.size p last d [] := by
    refine ⟨(hB3.block _ (by omega)).trans ((hB2.block _ hsl).trans hx1), (hB3.block _ (by omega)).trans k0, ⟨_, (hB3.block _ (by omega)).trans k2, ?_⟩, (fun y hy => by cases hy), bnext hBW2 hB3, by omega⟩
    exact ⟨rfl, .inr ⟨_, 0, 1, _, rfl, .inl rfl, (hB3.block _ (by omega)).trans k1, Nat.le_refl _, by decide, by simp, rfl⟩⟩
  obtain ⟨vq, vl, bb, bv, bw, hPO⟩ := HP.out.opens
  have HPO : Hid (POpen w p S m vq vl bb bv bw) := hPO
  have hBm : bb < W3.heap.size ∧ bv < W3.heap.size ∧ bw < W3.heap.size ∧ 0 < W3.heap.size := by have := hPO.maps.lts; omega
  clear hPO k0 k1 k2 hx1
  refine wpIn_rangeFunc_ownG rfl (by decide : 1 ≤ 3) (gf := 123) (lb := #[.pointer (some ⟨W1.heap.size + 1 + 1 + 1 + 1, 0, none⟩), .pointer (some ⟨W1.heap.size + 1 + 1 + 1, 0, none⟩)]) rfl trivial (enters_of Tryz.func123 (by kernel_rfl) rfl)
    (pahead_stops (3 - 1) (by decide) p (W1.heap.size + 1 + 1 + 1) (W1.heap.size + 1 + 1 + 1 + 1) bb' nn' w.heap.size m d hd xs hx hpl hbb W3 (by omega) (by omega) (by omega) (cell_box b3).1 hse) (fun h g => h.trans g) (keep_b (by omega) (by omega)) (Below.refl _ _) (fun _ => rfl)
    (fun pre W => CI w W w.heap.size W1.heap.size p last d pre)
    (fun c (pre : List U64) W => c = .ret ∧ (∀ zs : List U64, pre <+: zs → CX w W p S (m.pcommit d (List.map (fun x : U64 => x.val) zs)) vq bb bv bw))
    (ci_own w w.heap.size W1.heap.size p last d W3.heap.size (by omega))
    (fun c => fun pre A B row hs hg hr => ⟨hs.1, fun zs hz => (hs.2 zs hz).kept hBm (by omega) hg hr⟩)
    hci
    (fun x => { tmps := #[.pointer (some ⟨p, 0, none⟩), .int .u64 d, .pointer (some ⟨w.heap.size, 0, none⟩), undef, .pointer (some ⟨W1.heap.size, 0, none⟩), .pointer (some ⟨W1.heap.size + 1 + 1, 0, none⟩), .int .u64 x.1, .pointer (some ⟨p, 0, none⟩), .int .u64 last, .int .u64 d, .slice (some ⟨W1.heap.size + 1, 0, none⟩) 1 1, .pointer (some ⟨p, 0, none⟩), .int .u64 d, .func (.func 123) #[] #[.pointer (some ⟨W1.heap.size + 1 + 1 + 1 + 1, 0, none⟩), .pointer (some ⟨W1.heap.size + 1 + 1 + 1, 0, none⟩)], .int .u64 x.1, undef, undef, undef, undef, undef, undef, undef, undef, undef, undef, undef, undef, undef, undef, undef, undef, undef, undef], defers := [] }) ?assign ?body ?done ?stop
  case assign =>
    clear hs2 hs3
    intro l x W K hK
    gi_wp2
    exact hK
  case body =>
    clear hs2 hs3 hB2 hB3 hBW2 hW1 hse b3 hci hbb hpl hBm
    rintro l pre x W hI hN
    obtain ⟨c1, f1⟩ := cell_box hI.b1
    have hmx : Tryz.prog.follows .mixedOrders = true := by kernel_rfl
    by_cases hxl : x.1 = last
    · obtain ⟨v, hv, hr⟩ := hI.v
      have hlen : (d :: pre.map (·.1)).length = pre.length + 1 := by simp
      rw [hlen] at hr
      obtain ⟨a0, c0, rfl⟩ := hr.isSlice
      obtain ⟨cv, fv⟩ := cell_box hv
      have hxe : ((x.1 : Int) == (last : Int)) = true := by simp [hxl]
      have HREV : Hid (Calls Tryz.prog 122 #[.slice a0 (pre.length + 1) c0] W fun e w' => e = .returned (.tuple #[]) ∧ Row w' (fun k => k = W1.heap.size + 1 ∨ W1.heap.size + 1 + 1 + 1 + 1 + 1 ≤ k) 36 1 (.slice a0 (pre.length + 1) c0) (pre.length + 1) ((d :: pre.map (·.1)).reverse.flatMap ncells) ∧ Fr (fun k => (Value.slice a0 (pre.length + 1) c0).ownBlock = some k) W w') := by
        have := preverse_row W _ (.slice a0 (pre.length + 1) c0) (d :: pre.map (·.1)) (by rw [hlen]; exact hr) (by rw [hlen]; omega) (by rw [hlen]; omega)
        rwa [hlen] at this
      have HI : Hid (CI w W w.heap.size W1.heap.size p last d pre) := hI
      have HR : Hid (Row W (fun k => k = W1.heap.size + 1 ∨ W1.heap.size + 1 + 1 + 1 + 1 + 1 ≤ k) 36 1 (.slice a0 (pre.length + 1) c0) (pre.length + 1) ((d :: pre.map (·.1)).flatMap ncells)) := hr
      have HV : Hid (W.heap[W1.heap.size + 1 + 1]? = some (.cells #[.slice a0 (pre.length + 1) c0] 57 (0, 0))) := hv
      have HSL : Hid (w.heap.size < W1.heap.size) := hsl
      have HBD : Hid (m.log.length + pre.length + 1 ≤ 1700000000000) := by show m.log.length + pre.length + 1 ≤ 1700000000000; omega
      clear hI hr hv hsl
      gi_wp2_with (refine ⟨trivial, ?_⟩; gi_at_call 122; refine (CallsIn.inRound l (callsIn_wide.2 HREV.out)).mono ?_; rintro e W5 ⟨rfl, hr5, hf5⟩; obtain ⟨al, cl, a', c', w1, hvl, e0, e18, e2, hrun, g0, g18, g2, gf, hcx, hko⟩ := HI.out.leave HSL.out HPO.out HBD.out HV.out HR.out hr5 hf5; have HCX : Hid (CX w (w1.setCell ⟨p, 18, none⟩ (.slice a' (m.log.length + (pre.length + 1)) c')) p S { m with log := m.log ++ (d :: pre.map (·.1)).reverse } vq bb bv bw) := hcx; have HKO : Hid (KeepsOthers W (w1.setCell ⟨p, 18, none⟩ (.slice a' (m.log.length + (pre.length + 1)) c'))) := hko; clear hcx hko hr5 hf5 hvl)
      gi_region_o
      all_goals gi_wp2
      all_goals (
        refine ⟨HKO.out.from _, rfl, fun zs hz => ?_⟩
        rw [pcommit_yes hz (fun y hy => HLA.out ▸ HI.out.no y hy) (hxl.trans HLA.out)]
        exact HCX.out)
    · have hxe : ((x.1 : Int) == (last : Int)) = false := by simp; omega
      obtain ⟨a0, c0, a', c', W4, hv, hrun, hv4, hci4, hk4, hko4⟩ := hI.grow hsl x hxl (by omega)
      obtain ⟨cv, fv⟩ := cell_box hv
      obtain ⟨cv4, fv4⟩ := cell_box hv4
      have HCI : Hid (CI w (W4.setCell ⟨W1.heap.size + 1 + 1, 0, none⟩ (.slice a' (pre.length + 1 + 1) c')) w.heap.size W1.heap.size p last d (pre ++ [x])) := hci4
      clear hv hv4 hI hci4
      gi_wp2
      exact ⟨hko4.from _, hk4, HCI.out⟩
  case done =>
    have HS3 : Hid (W3.heap.size = W1.heap.size + 1 + 1 + 1 + 1 + 1) := hs3
    clear hs2 hs3
    rintro D ys W hD rfl hI hK
    gi_wp2
    refine ⟨by simp, .inl ⟨_, _, rfl, run_takeDeferred hK, ?_⟩⟩
    refine ⟨_, results_none rfl _ _ _, rfl, S, ?_, Grow.refl _ _, Fr.of_below (hI.bl.trans (belowK_b (w := w) (Nat.le_refl _) _ D _ _ (by have := HS3.out; omega) hK rfl rfl))⟩
    rw [pcommit_no (fun y hy => HLA.out ▸ hI.no y hy)]
    exact HP.out.below (hI.bl.trans (belowK_b (w := w) (Nat.le_refl _) _ D _ _ (by have := HS3.out; omega) hK rfl rfl))
  case stop =>
    have HS3 : Hid (W3.heap.size = W1.heap.size + 1 + 1 + 1 + 1 + 1) := hs3
    clear hs2 hs3
    rintro D c pre W hD hpre ⟨rfl, hcx⟩ hK
    have HC : Hid (CX w W p S (m.pcommit d (xs.map (·.1))) vq bb bv bw) := hcx xs hpre
    clear hcx
    gi_wp2
    refine ⟨by simp, .inl ⟨_, _, rfl, run_takeDeferred hK, ?_⟩⟩
    have hc2 := HC.out.kept hBm (by have := HS3.out; omega) (grownBy_putObj' W D (.deferred none)) (fun r e => by cases e; exact ⟨hD, _, hK, rfl⟩)
    obtain ⟨vl', S', h1, h2⟩ := hc2.ex
    exact ⟨_, results_none rfl _ _ _, rfl, S', h1.mem, h2, hc2.fr⟩
end Go.Proofs.YtkehpnobidendaaGreatDoor

namespace Go.Proofs.YtkehpnobidendaaGreatDoor

theorem up_u64 {m : Mem} (hc : Chain m.blocks) (n : Nat) : m.up n < 18446744073709551616 := by
  unfold Mem.up
  cases hb : m.block n with
  | none => show 0 < _; omega
  | some b => exact (hc.vw _ (find_mem hb)).2.2.1.j.b1
theorem up_none {m : Mem} {n : Nat} (h : m.block n = none) : m.up n = 0 := by unfold Mem.up; rw [h]; rfl
theorem ways_known {m : Mem} (hc : Chain m.blocks) : ∀ (i n : Nat), (m.block n).isSome = true → idx n m.blocks = i → ∃ xs, Ways m n xs ∧ xs.length ≤ i := by
  intro i
  induction i using Nat.strongRecOn with
  | _ i ih =>
    intro n hn hi
    by_cases h0 : n = 0
    · exact ⟨[], h0, Nat.zero_le _⟩
    · obtain ⟨b, hb⟩ := Option.isSome_iff_exists.1 hn
      have hu := up_known hc hb h0
      obtain ⟨ys, h1, h2⟩ := ih _ (by rw [← hi]; exact hu.2) (m.up n) hu.1 rfl
      exact ⟨⟨m.up n, up_u64 hc n⟩ :: ys, ⟨h0, rfl, h1⟩, by have := hu.2; simp only [List.length_cons]; omega⟩
theorem ways_ex {m : Mem} (hc : Chain m.blocks) (n : Nat) : ∃ xs, Ways m n xs ∧ xs.length ≤ m.blocks.length := by
  cases hb : m.block n with
  | none =>
    by_cases h0 : n = 0
    · exact ⟨[], h0, Nat.zero_le _⟩
    · obtain ⟨r, hr⟩ := hc.head
      exact ⟨[⟨0, by omega⟩], ⟨h0, (up_none hb).symm, rfl⟩, by rw [hr]; simp⟩
  | some b =>
    obtain ⟨xs, h1, h2⟩ := ways_known hc _ n (by rw [hb]; rfl) rfl
    exact ⟨xs, h1, Nat.le_of_lt (Nat.lt_of_le_of_lt h2 (find_idx hb).1)⟩
theorem ways_idx {m : Mem} (hc : Chain m.blocks) : ∀ {n : Nat} {xs : List U64}, Ways m n xs → (m.block n).isSome = true → ∀ x ∈ xs, (m.block x.1).isSome = true ∧ idx x.1 m.blocks < idx n m.blocks
  | _, [], _, _, x, hx => by cases hx
  | n, y :: r, ⟨h0, hy, hr⟩, hn, x, hx => by
    obtain ⟨b, hb⟩ := Option.isSome_iff_exists.1 hn
    have hu := up_known hc hb h0
    rw [← hy] at hu
    rcases List.mem_cons.1 hx with rfl | hx
    · exact hu
    · have := ways_idx hc hr hu.1 x hx
      exact ⟨this.1, by have := this.2; have := hu.2; omega⟩
theorem ways_zero {m : Mem} : ∀ {n : Nat} {xs : List U64}, Ways m n xs → n ≠ 0 → 0 ∈ xs.map (·.1)
  | _, [], h, h0 => absurd h h0
  | n, y :: r, ⟨_, hy, hr⟩, _ => by
    by_cases h : y.1 = 0
    · simp [h]
    · have := ways_zero hr h
      simp only [List.map_cons, List.mem_cons]
      exact .inr this
theorem above_ways {m : Mem} (old : Nat) : ∀ {n : Nat} {xs : List U64} {f : Nat}, Ways m n xs → xs.length < f → m.above old f n = decide (n = old ∨ old ∈ xs.map (·.1))
  | n, [], 0, _, hf => by simp at hf
  | n, [], f + 1, h, _ => by
    show (if n = old then true else if n = 0 then false else m.above old f (m.up n)) = _
    by_cases e : n = old
    · rw [if_pos e]; simp [e]
    · have h0 : n = 0 := h
      rw [if_neg e, if_pos h0]; simp [e]
  | n, y :: r, 0, _, hf => by simp at hf
  | n, y :: r, f + 1, ⟨h0, hy, hr⟩, hf => by
    show (if n = old then true else if n = 0 then false else m.above old f (m.up n)) = _
    by_cases e : n = old
    · rw [if_pos e]; simp [e]
    · rw [if_neg e, if_neg h0, ← hy, above_ways old hr (by simp at hf; omega)]
      apply decide_eq_decide.2
      simp only [List.map_cons, List.mem_cons]
      constructor
      · rintro (h | h)
        · exact .inr (.inl h.symm)
        · exact .inr (.inr h)
      · rintro (h | h | h)
        · exact absurd h e
        · exact .inl h.symm
        · exact .inr h
theorem more_ways {m : Mem} : ∀ {n : Nat} {xs : List U64} {f : Nat}, Ways m n xs → n ≠ 0 → xs.length < f → m.more f n = n :: (xs.map (·.1)).takeWhile (fun k => !m.logged k)
  | n, [], _, h, h0, _ => absurd h h0
  | n, y :: r, 0, _, _, hf => by simp at hf
  | n, y :: r, f + 1, ⟨_, hy, hr⟩, _, hf => by
    show n :: (if m.logged (m.up n) then [] else m.more f (m.up n)) = _
    rw [← hy]
    cases hl : m.logged y.1 with
    | true => simp [hl]
    | false =>
      have hy0 : y.1 ≠ 0 := (logged_ne hl).1
      rw [if_neg (by simp), more_ways hr hy0 (by simp at hf; omega)]
      simp [hl]
theorem getLastD_cons' (n a : Nat) (l : List Nat) : (n :: l).getLastD a = l.getLastD n := by
  cases l with
  | nil => rfl
  | cons k r => rfl
/-- Each one's parent is the one ahead of it. -/
def Up (m : Mem) : Nat → List Nat → Prop
  | _, [] => True
  | a, n :: r => m.up n = a ∧ Up m n r
theorem up_append {m : Mem} : ∀ {a : Nat} {l r : List Nat}, Up m a (l ++ r) ↔ Up m a l ∧ Up m (l.getLastD a) r
  | _, [], _ => by simp [Up]
  | a, n :: l, r => by
    show (m.up n = a ∧ Up m n (l ++ r)) ↔ (m.up n = a ∧ Up m n l) ∧ Up m ((n :: l).getLastD a) r
    rw [up_append]
    have : (n :: l).getLastD a = l.getLastD n := getLastD_cons' n a l
    rw [this]
    exact and_assoc.symm
theorem up_idx {m : Mem} (hc : Chain m.blocks) : ∀ {a : Nat} {l : List Nat}, Up m a l → (∀ n ∈ l, n ≠ 0 ∧ (m.block n).isSome = true) → ∀ n ∈ l, idx n m.blocks ≤ idx (l.getLastD a) m.blocks
  | _, [], _, _, n, hn => by cases hn
  | a, k :: [], _, _, n, hn => by
    simp at hn; subst hn; simp
  | a, k :: j :: r, ⟨_, h1⟩, hk, n, hn => by
    have e : (k :: j :: r).getLastD a = (j :: r).getLastD k := getLastD_cons' k a (j :: r)
    rw [e]
    have ih := up_idx hc h1 (fun x hx => hk x (List.mem_cons_of_mem _ hx))
    rcases List.mem_cons.1 hn with rfl | hn
    · have hj := hk j (by simp)
      obtain ⟨b, hb⟩ := Option.isSome_iff_exists.1 hj.2
      have hu := (up_known hc hb hj.1).2
      rw [h1.1] at hu
      have := ih j (by simp)
      omega
    · exact ih n hn
theorem last_not_ways {m : Mem} (h : Inv m) (hl : Up m 0 m.log) {n : Nat} (hn : n ∈ m.log) {xs : List U64} (hx : Ways m n xs) : m.last ∉ xs.map (·.1) := by
  intro hm
  obtain ⟨y, hy, e⟩ := List.mem_map.1 hm
  have h1 := ways_idx h.ch hx (h.lg n hn).2 y hy
  have h2 := up_idx h.ch hl h.lg n hn
  rw [e] at h1
  unfold Mem.last at h1
  omega
theorem last_mem {m : Mem} (h : m.log ≠ []) : m.last ∈ m.log := by
  unfold Mem.last
  rw [List.getLastD_eq_getLast?, List.getLast?_eq_some_getLast h]
  exact List.getLast_mem h
theorem last_logged (m : Mem) : m.logged m.last = true := by
  unfold Mem.logged
  by_cases h : m.log = []
  · have : m.last = 0 := by unfold Mem.last; rw [h]; rfl
    simp [this]
  · simp [last_mem h]
theorem take_same {m : Mem} (h : Inv m) (hl : Up m 0 m.log) : ∀ {n : Nat} {xs : List U64}, Ways m n xs → m.last ∈ xs.map (·.1) → (xs.map (·.1)).takeWhile (fun k => !m.logged k) = (xs.map (·.1)).takeWhile (· != m.last)
  | _, [], _, hm => by simp at hm
  | n, y :: r, ⟨_, _, hr⟩, hm => by
    by_cases e : y.1 = m.last
    · simp [e, last_logged m]
    · have hm' : m.last ∈ r.map (·.1) := by
        simp only [List.map_cons, List.mem_cons] at hm
        rcases hm with h1 | h1
        · exact absurd h1.symm e
        · exact h1
      have hy : m.logged y.1 = false := by
        cases hly : m.logged y.1 with
        | false => rfl
        | true =>
          exfalso
          unfold Mem.logged at hly
          simp only [Bool.or_eq_true, List.contains_eq_mem, decide_eq_true_eq, beq_iff_eq] at hly
          rcases hly with h1 | h1
          · exact last_not_ways h hl h1 hr hm'
          · cases r with
            | nil => simp at hm'
            | cons z r => exact hr.1 h1
      have := take_same h hl hr hm'
      simp only [List.map_cons]
      rw [List.takeWhile_cons_of_pos (by simp [hy]), List.takeWhile_cons_of_pos (by simp [e]), this]
theorem up_take {m : Mem} : ∀ {n : Nat} {xs : List U64} {z : Nat}, Ways m n xs → z ∈ xs.map (·.1) → Up m z (n :: (xs.map (·.1)).takeWhile (· != z)).reverse
  | _, [], _, _, hm => by simp at hm
  | n, y :: r, z, ⟨_, hy, hr⟩, hm => by
    by_cases e : y.1 = z
    · simp [e, Up, ← hy]
    · have hm' : z ∈ r.map (·.1) := by
        simp only [List.map_cons, List.mem_cons] at hm
        rcases hm with h1 | h1
        · exact absurd h1.symm e
        · exact h1
      have ih := up_take hr hm'
      simp only [List.map_cons]
      rw [List.takeWhile_cons_of_pos (by simp [e]), List.reverse_cons, up_append]
      refine ⟨ih, ?_, trivial⟩
      rw [List.reverse_cons]
      simp [hy]
end Go.Proofs.YtkehpnobidendaaGreatDoor

namespace Go.Proofs.YtkehpnobidendaaGreatDoor

theorem commit_prog {m : Mem} (h : Inv m) (hl : Up m 0 m.log) {c : Nat} {b : Blk} (hb : m.block c = some b) (hc : c ≠ 0) {xs ys : List U64} (hx : Ways m c xs) (hy : Ways m (m.settles c xs).1 ys) :
    (if b.just.block = 0 then m else m.commit b) = if (m.settles c xs).2 = true then m.pcommit (m.settles c xs).1 (ys.map (·.1)) else m := by
  have hup : m.up c = b.just.block := by unfold Mem.up; rw [hb]; rfl
  have hvc : m.vw c = b.view := by unfold Mem.vw; rw [hb]; rfl
  cases xs with
  | nil => exact absurd hx hc
  | cons x r =>
    obtain ⟨_, hx1, hr⟩ := hx
    rw [hup] at hx1
    cases r with
    | nil =>
      have hx0 : x.1 = 0 := hr
      rw [if_pos (hx1 ▸ hx0)]
      rfl
    | cons y r =>
      obtain ⟨hx0, hy1, hr⟩ := hr
      rw [if_neg (hx1 ▸ hx0)]
      obtain ⟨p, hp⟩ : ∃ p, p = (m.block b.just.block).getD Blk.zero := ⟨_, rfl⟩
      have hyp : y.1 = p.just.block := by rw [hy1, hx1, hp]; rfl
      obtain ⟨o, ho⟩ : ∃ o, o = (m.block p.just.block).getD Blk.zero := ⟨_, rfl⟩
      have hvx : m.vw x.1 = p.view := by unfold Mem.vw; rw [hx1, ← hp]
      have hvy : m.vw y.1 = o.view := by unfold Mem.vw; rw [hyp, ← ho]
      rw [commit_is m b p o hp ho]
      unfold Mem.shuns
      rw [← hyp]
      by_cases hv : m.vw x.1 = m.vw c - 1 ∧ m.vw y.1 = m.vw c - 2
      · have hs : m.settles c (x :: y :: r) = (y.1, y.1 != 0) := if_pos hv
        rw [hs] at hy ⊢
        simp only at hy ⊢
        rw [hvx, hvy, hvc] at hv
        have e1 : (b.view != p.view + 1) = false := by simp; omega
        have e2 : (p.view != o.view + 1) = false := by simp; omega
        rw [e1, e2]
        simp only [Bool.or_false]
        by_cases hy0 : y.1 = 0
        · have : m.logged y.1 = true := by unfold Mem.logged; simp [hy0]
          rw [if_pos this]
          simp [hy0]
        · rw [if_pos (show (y.1 != 0) = true by simp [hy0])]
          by_cases hlg : m.logged y.1 = true
          · rw [if_pos hlg]
            have hin : y.1 ∈ m.log := by
              unfold Mem.logged at hlg
              simp only [Bool.or_eq_true, List.contains_eq_mem, decide_eq_true_eq, beq_iff_eq] at hlg
              rcases hlg with h1 | h1
              · exact h1
              · exact absurd h1 hy0
            unfold Mem.pcommit
            rw [if_neg (last_not_ways h hl hin hy)]
          · rw [if_neg hlg]
            have hne : y.1 ≠ m.last := fun e => hlg (e ▸ last_logged m)
            have hlen : ys.length < m.blocks.length + 1 := by
              obtain ⟨zs, h1, h2⟩ := ways_ex h.ch y.1
              rw [Ways.unique hy h1]; omega
            have hab : m.above (m.log.getLastD 0) (m.blocks.length + 1) y.1 = decide (m.last ∈ ys.map (·.1)) := by
              rw [above_ways _ hy hlen]
              apply decide_eq_decide.2
              constructor
              · rintro (h1 | h1)
                · exact absurd h1 hne
                · exact h1
              · intro h1; exact .inr h1
            rw [hab]
            unfold Mem.pcommit
            by_cases hm : m.last ∈ ys.map (·.1)
            · rw [if_pos hm, decide_eq_true hm, if_neg (by simp), more_ways hy hy0 hlen, take_same h hl hy hm]
            · rw [if_neg hm, decide_eq_false hm]
              have hlog : m.log ≠ [] := fun e => hm (by
                have : m.last = 0 := by unfold Mem.last; rw [e]; rfl
                rw [this]; exact ways_zero hy hy0)
              rw [if_pos (by cases hq : m.log with | nil => exact absurd hq hlog | cons _ _ => rfl)]
      · have hs : m.settles c (x :: y :: r) = (0, false) := if_neg hv
        rw [hs]
        rw [hvx, hvy, hvc] at hv
        rw [if_neg (show ¬ ((0, false) : Nat × Bool).2 = true by simp)]
        rw [if_pos]
        by_cases e1 : b.view = p.view + 1
        · have e2 : (p.view != o.view + 1) = true := by simp; omega
          rw [e2]; simp
        · have e2 : (b.view != p.view + 1) = true := by simp; omega
          rw [e2]; simp
theorem settles_blocks {m m' : Mem} (h : m'.blocks = m.blocks) (n : Nat) (xs : List U64) : m'.settles n xs = m.settles n xs := by
  have hv : ∀ k, m'.vw k = m.vw k := fun k => by unfold Mem.vw Mem.block; rw [h]
  unfold Mem.settles
  simp only [hv]
theorem ways_blocks {m m' : Mem} (h : m'.blocks = m.blocks) : ∀ {n : Nat} {xs : List U64}, Ways m n xs → Ways m' n xs
  | _, [], e => e
  | n, x :: r, ⟨h0, h1, h2⟩ => ⟨h0, by rw [h1]; unfold Mem.up Mem.block; rw [h], ways_blocks h h2⟩
theorem up_blocks {m m' : Mem} (h : m'.blocks = m.blocks) : ∀ {a : Nat} {l : List Nat}, Up m a l → Up m' a l
  | _, [], _ => trivial
  | _, n :: r, ⟨h1, h2⟩ => ⟨by rw [← h1]; unfold Mem.up Mem.block; rw [h], up_blocks h h2⟩
/-- What the program makes of High and Locked. -/
def Mem.mid (m : Mem) (c : Crt) : Mem := (m.high1 c).lock1 ((m.block c.block).getD Blk.zero)
theorem high1_blocks (m : Mem) (c : Crt) : (m.high1 c).blocks = m.blocks ∧ (m.high1 c).log = m.log := by unfold Mem.high1; split <;> exact ⟨rfl, rfl⟩
theorem mid_blocks (m : Mem) (c : Crt) : (m.mid c).blocks = m.blocks ∧ (m.mid c).log = m.log := by
  have h1 := high1_blocks m c
  have h2 := lock1_blocks (m.high1 c) ((m.block c.block).getD Blk.zero)
  exact ⟨h2.1.trans h1.1, by unfold Mem.mid Mem.lock1; split <;> exact h1.2⟩
theorem lock1_zero {m : Mem} (h : 0 ≤ m.locked.view) {b : Blk} (hb : b = Blk.zero) : m.lock1 b = m := by
  subst hb
  unfold Mem.lock1
  exact if_neg (by show ¬ m.locked.view < 0; omega)
theorem inv_mid {m : Mem} (h : Inv m) (c : Crt) (hc : Held m c) : Inv (m.mid c) := by
  have h1 : Inv (m.high1 c) := by
    unfold Mem.high1
    split
    · exact h.same rfl rfl rfl rfl ⟨h.v0, h.v1⟩ ⟨h.t0, h.t1⟩ h.w0 hc h.lk h.qc h.ql h.vt
    · exact h
  obtain ⟨b, hb, _⟩ := hc.known
  have hb1 : (m.high1 c).block c.block = some b := by unfold Mem.block; rw [(high1_blocks m c).1]; exact hb
  unfold Mem.mid Mem.lock1
  rw [hb]
  split
  · exact h1.same rfl rfl rfl rfl ⟨h1.v0, h1.v1⟩ ⟨h1.t0, h1.t1⟩ h1.w0 h1.hi (just_held h1.ch hb1) h1.qc h1.ql h1.vt
  · exact h1
theorem learn_prog {m : Mem} (h : Inv m) (hl : Up m 0 m.log) (c : Crt) (hc : Held m c) {xs ys : List U64} (hx : Ways m c.block xs) (hy : Ways m (m.settles c.block xs).1 ys) :
    m.learn c = if (m.settles c.block xs).2 = true then (m.mid c).pcommit (m.settles c.block xs).1 (ys.map (·.1)) else m.mid c := by
  obtain ⟨b, hb, _⟩ := hc.known
  have hmb := mid_blocks m c
  have hb1 : (m.high1 c).block c.block = some b := by unfold Mem.block; rw [(high1_blocks m c).1]; exact hb
  have hmid : m.mid c = (m.high1 c).lock1 b := by unfold Mem.mid; rw [hb]; rfl
  have hbm : (m.mid c).block c.block = some b := by unfold Mem.block; rw [hmb.1]; exact hb
  rw [learn_is]
  by_cases h0 : c.block = 0
  · rw [if_pos h0]
    have hxs : xs = [] := by
      cases xs with
      | nil => rfl
      | cons x r => exact absurd h0 hx.1
    subst hxs
    have hz : b = Blk.zero := by
      have := zero_known h.ch
      rw [h0, this] at hb
      cases hb; rfl
    have : (m.high1 c).locked = m.locked := by unfold Mem.high1; split <;> rfl
    rw [hmid, lock1_zero (by rw [this]; exact h.lk.v0) hz]
    rfl
  · rw [if_neg h0]
    simp only [hb1, Option.getD_some]
    have := commit_prog (inv_mid h c hc) (by rw [hmb.2]; exact up_blocks hmb.1 hl) hbm h0 (ways_blocks hmb.1 hx) (ys := ys) (by rw [settles_blocks hmb.1]; exact ways_blocks hmb.1 hy)
    rw [settles_blocks hmb.1] at this
    rw [← this, hmid]
end Go.Proofs.YtkehpnobidendaaGreatDoor
