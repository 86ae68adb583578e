/- The program's settledBy. -/
import Derived.Test.YtkehpnobidendaaGreatDoorM28
namespace Go.Proofs.YtkehpnobidendaaGreatDoor
open Go.RowKit Go.Maps Go.Shelf
attribute [local go_sem] Oper.semAt_some

/-- The block two ahead, if the views of the three follow one another. -/
def Mem.settles (m : Mem) (n : Nat) : List U64 → Nat × Bool
  | x :: y :: _ => if m.vw x.1 = m.vw n - 1 ∧ m.vw y.1 = m.vw n - 2 then (y.1, y.1 != 0) else (0, false)
  | _ => (0, false)
theorem settles_no1 {m : Mem} {n : Nat} {x : U64} {zs : List U64} (h : [x] <+: zs) (hx : m.vw x.1 ≠ m.vw n - 1) : m.settles n zs = (0, false) := by
  obtain ⟨r, rfl⟩ := h
  cases r with
  | nil => rfl
  | cons y r => exact if_neg (fun hh => hx hh.1)
theorem settles_no2 {m : Mem} {n : Nat} {z x : U64} {zs : List U64} (h : [z, x] <+: zs) (hx : m.vw x.1 ≠ m.vw n - 2) : m.settles n zs = (0, false) := by
  obtain ⟨r, rfl⟩ := h
  exact if_neg (fun hh => hx hh.2)
theorem settles_yes {m : Mem} {n : Nat} {z x : U64} {zs : List U64} (h : [z, x] <+: zs) (hz : m.vw z.1 = m.vw n - 1) (hx : m.vw x.1 = m.vw n - 2) : m.settles n zs = (x.1, x.1 != 0) := by
  obtain ⟨r, rfl⟩ := h
  exact if_pos ⟨hz, hx⟩
/-- The boxes of settledBy. -/
structure SBox (s : Nat) (W : World) (p a : Nat) (v k : Int) (f : Bool) : Prop where
  b0 : W.heap[s]? = some (.cells #[.pointer (some ⟨p, 0, none⟩)] 47 (0, 0))
  b1 : W.heap[s + 1]? = some (.cells #[.int .u64 a] 36 (0, 0))
  b2 : W.heap[s + 1 + 1]? = some (.cells #[.bool f] 4 (0, 0))
  b3 : W.heap[s + 1 + 1 + 1]? = some (.cells #[.int .i64 v] 3 (0, 0))
  b4 : W.heap[s + 1 + 1 + 1 + 1]? = some (.cells #[.int .i64 k] 3 (0, 0))
theorem SBox.kept {s p a : Nat} {v k : Int} {f : Bool} {W W' : World} {row : Option Nat} (hs : SBox s W p a v k f) (hg : W.grownBy W' row) (hr : ∀ r, row = some r → ∃ o : Obj, W.heap[r]? = some o ∧ o.isCells = false) : SBox s W' p a v k f :=
  ⟨block_kept hs.b0 hg hr, block_kept hs.b1 hg hr, block_kept hs.b2 hg hr, block_kept hs.b3 hg hr, block_kept hs.b4 hg hr⟩
theorem SBox.step {s p a : Nat} {v k : Int} {f : Bool} {W : World} (h : SBox s W p a v k f) (v' k' : Int) : SBox s ((W.setCell ⟨s + 1 + 1 + 1, 0, none⟩ (.int .i64 v')).setCell ⟨s + 1 + 1 + 1 + 1, 0, none⟩ (.int .i64 k')) p a v' k' f := by
  refine ⟨?_, ?_, ?_, ?_, ?_⟩
  · exact (heap_store_ne _ (by omega)).trans ((heap_store_ne _ (by omega)).trans h.b0)
  · exact (heap_store_ne _ (by omega)).trans ((heap_store_ne _ (by omega)).trans h.b1)
  · exact (heap_store_ne _ (by omega)).trans ((heap_store_ne _ (by omega)).trans h.b2)
  · exact (heap_store_ne _ (by omega)).trans (heap_store h.b3 _)
  · exact heap_store ((heap_store_ne _ (by omega)).trans h.b4) _
theorem SBox.fin {s p a : Nat} {v k : Int} {f : Bool} {W : World} (h : SBox s W p a v k f) (a' : Nat) (f' : Bool) : SBox s ((W.setCell ⟨s + 1, 0, none⟩ (.int .u64 a')).setCell ⟨s + 1 + 1, 0, none⟩ (.bool f')) p a' v k f' := by
  refine ⟨?_, ?_, ?_, ?_, ?_⟩
  · exact (heap_store_ne _ (by omega)).trans ((heap_store_ne _ (by omega)).trans h.b0)
  · exact (heap_store_ne _ (by omega)).trans (heap_store h.b1 _)
  · exact heap_store ((heap_store_ne _ (by omega)).trans h.b2) _
  · exact (heap_store_ne _ (by omega)).trans ((heap_store_ne _ (by omega)).trans h.b3)
  · exact (heap_store_ne _ (by omega)).trans ((heap_store_ne _ (by omega)).trans h.b4)
theorem SBox.drewN {s p a : Nat} {v k : Int} {f : Bool} {W : World} (h : SBox s W p a v k f) (n : Nat) : SBox s (W.drewN n) p a v k f := ⟨h.b0, h.b1, h.b2, h.b3, h.b4⟩
theorem keep_set {n₀ bm b : Nat} {W : World} (h : n₀ ≤ b) (hb : bm ≠ b) (v : Value) : Keep n₀ bm W (W.setCell ⟨b, 0, none⟩ v) := ⟨(Below.refl _ _).setCell (p := ⟨b, 0, none⟩) h v, heap_store_ne _ hb⟩
theorem keep_drewN {n₀ bm : Nat} (W : World) (k : Nat) : Keep n₀ bm W (W.drewN k) := ⟨below_drewN (Below.refl _ _) k, rfl⟩
theorem keepsOthers_drewN (W : World) (k : Nat) : KeepsOthers W (W.drewN k) := by
  induction k with
  | zero => exact KeepsOthers.refl _
  | succ k ih => exact ih.trans (KeepsOthers.drew _)
/-- How the loop stands. -/
def SI (m : Mem) (s p : Nat) (xv : Int) (pre : List U64) (W : World) : Prop := (pre = [] ∧ SBox s W p 0 xv 0 false) ∨ (∃ x, pre = [x] ∧ m.vw x.1 = xv - 1 ∧ SBox s W p 0 (xv - 1) 1 false)
def SX (m : Mem) (n s p : Nat) (c : Code) (pre : List U64) (W : World) : Prop := (c = .exit 0 ∨ c = .ret) ∧ ∃ a f, (∀ zs, pre <+: zs → m.settles n zs = (a, f)) ∧ (c = .exit 0 → a = 0 ∧ f = false) ∧ ∃ v k, SBox s W p a v k f
theorem si_own (m : Mem) (s p : Nat) (xv : Int) : Own (SI m s p xv) := fun _ _ _ _ hs hg hr => by
  rcases hs with ⟨h1, h2⟩ | ⟨x, h1, h2, h3⟩
  · exact .inl ⟨h1, h2.kept hg hr⟩
  · exact .inr ⟨x, h1, h2, h3.kept hg hr⟩
theorem sx_own (m : Mem) (n s p : Nat) (c : Code) : Own (SX m n s p c) := fun _ _ _ _ hs hg hr => by
  obtain ⟨h0, a, f, h1, h2, v, k, h3⟩ := hs
  exact ⟨h0, a, f, h1, h2, v, k, h3.kept hg hr⟩
set_option maxRecDepth 100000 in
set_option maxHeartbeats 2000000 in
theorem psettled (w : World) (p : Nat) (S : Nat → Prop) (m : Mem) (h : PMem w p S m) (hc : Chain m.blocks) (n : Nat) (hn : n < 18446744073709551616) (xs : List U64) (hx : Ways m n xs) :
    Calls Tryz.prog 113 #[.pointer (some ⟨p, 0, none⟩), .int .u64 n] w fun e w' => e = .returned (.tuple #[.int .u64 (m.settles n xs).1, .bool (m.settles n xs).2]) ∧ Below w.heap.size w w' := by
  refine (callsIn_wide (n := 3)).1 ?_
  refine callsIn_of_wp_marks Tryz.func113 rfl trivial ?_ rfl
  simp only [Tryz.ntmps113, List.size_toArray, List.length_cons, List.length_nil, Nat.reduceAdd, Nat.reduceSub, Array.replicate_succ, Array.replicate_zero, List.push_toArray, List.append_toArray, List.nil_append, List.cons_append]
  obtain ⟨vq, vl, bb, bv, bw, g1, g2⟩ := h.ex
  obtain ⟨nn, hnn, mb⟩ := g2.mb
  have c19 : w.cell? ⟨p, 19, none⟩ = some (.map (some bb)) := cell_at g1.box 19
  have lp := lt_at g1.box
  have HC : Hid (∀ W, Below w.heap.size w W → W.cell? ⟨p, 19, none⟩ = some (.map (some bb))) := fun W hW => (hW.cell (p := ⟨p, 19, none⟩) lp).trans c19
  have HP : Hid (PMem w p S m) := h
  have hview := view_all hc
  have HLK : Hid (∀ (k : Nat) W, k < 18446744073709551616 → Below w.heap.size w W → (Instr.lookup 78 (.map (some bb)) (.int .u64 k) false).run Tryz.prog W = .ok ((m.block k).getD Blk.zero).val W) := fun k W hk hW => by
    have := (mb.below hW).look Tryz.underlying36 Tryz.underlying78 (zero_blk _) ⟨_, rfl⟩ k (wf_u64 hk)
    rwa [bmap_get] at this
  obtain ⟨⟨xv, ⟨xjv, xjb, x0, x1, x2, x3⟩, xc⟩, hxb⟩ : ∃ y, y = (m.block n).getD Blk.zero := ⟨_, rfl⟩
  have hB0 : Below w.heap.size w ((((w.alloc (.cells #[.pointer (some ⟨p, 0, none⟩)] 47)).alloc (.cells #[.int .u64 0] 36)).alloc (.cells #[.bool false] 4))) := bnext (bnext (below_alloc _ _) (below_alloc _ _)) (below_alloc _ _)
  have hl1 := HLK.out n _ hn hB0
  rw [← hxb] at hl1
  dsimp only [Blk.val, Blk.cells] at hl1
  have hc1 := HC.out _ hB0
  have hxv : m.vw n = xv := by unfold Mem.vw; rw [← hxb]
  have HV : Hid (0 ≤ xv ∧ xv ≤ 1000) := by have := hview n; rw [← hxb] at this; exact this
  have HVA : Hid (∀ n, 0 ≤ ((m.block n).getD Blk.zero).view ∧ ((m.block n).getD Blk.zero).view ≤ 1000) := hview
  clear h g1 g2 mb hxb hB0 hview hc
  have hf1 := fld_view
  gi_wp2_with (refine ⟨trivial, ?_⟩; gi_at_call 120; refine (pahead _ _ _ _).mono ?_; rintro e w' ⟨rfl, rfl⟩)
  clear hc1 hl1
  obtain ⟨W1, hW1⟩ : ∃ W1, W1 = ((((w.alloc (.cells #[.pointer (some ⟨p, 0, none⟩)] 47)).alloc (.cells #[.int .u64 0] 36)).alloc (.cells #[.bool false] 4)).alloc (.cells #[.int .i64 xv] 3)).alloc (.cells #[.int .i64 0] 3) := ⟨_, rfl⟩
  have hB1 : Below w.heap.size w W1 := by rw [hW1]; exact bnext (bnext (bnext (bnext (below_alloc _ _) (below_alloc _ _)) (below_alloc _ _)) (below_alloc _ _)) (below_alloc _ _)
  have hs1 : W1.heap.size = w.heap.size + 1 + 1 + 1 + 1 + 1 := by rw [hW1]; simp
  have b1 : SBox w.heap.size W1 p 0 xv 0 false := by
    rw [hW1]
    refine ⟨?_, ?_, ?_, ?_, ?_⟩
    · exact (Below.heap_alloc _ _ _ (by simp; omega)).trans ((Below.heap_alloc _ _ _ (by simp; omega)).trans ((Below.heap_alloc _ _ _ (by simp; omega)).trans ((Below.heap_alloc _ _ _ (by simp)).trans (new_box _ _ _))))
    · exact (Below.heap_alloc _ _ _ (by simp only [World.size_alloc]; omega)).trans ((Below.heap_alloc _ _ _ (by simp only [World.size_alloc]; omega)).trans ((Below.heap_alloc _ _ _ (by simp)).trans (new_at _ (by simp))))
    · exact (Below.heap_alloc _ _ _ (by simp only [World.size_alloc]; omega)).trans ((Below.heap_alloc _ _ _ (by simp)).trans (new_at _ (by simp)))
    · exact (Below.heap_alloc _ _ _ (by simp)).trans (new_at _ (by simp))
    · exact new_at _ (by simp)
  rw [← hW1, ← hs1]
  clear hW1
  obtain ⟨bb', nn', hbb, hpl, hse⟩ := sees_start HP.out hB1 n
  have b3 : ((W1.alloc (.cells #[.pointer (some ⟨p, 0, none⟩)] 47)).alloc (.cells #[.int .u64 n] 36)).heap[W1.heap.size + 1]? = some (.cells #[.int .u64 n] 36 (0, 0)) := new_at _ (by simp)
  obtain ⟨W2, hW2⟩ : ∃ W2, W2 = (W1.alloc (.cells #[.pointer (some ⟨p, 0, none⟩)] 47)).alloc (.cells #[.int .u64 n] 36) := ⟨_, rfl⟩
  rw [← hW2] at hse b3 ⊢
  have hB2 : Below W1.heap.size W1 W2 := by rw [hW2]; exact bnext (below_alloc _ _) (below_alloc _ _)
  have hs2 : W2.heap.size = W1.heap.size + 1 + 1 := by rw [hW2]; simp
  clear hW2
  have d1 : SBox w.heap.size W2 p 0 xv 0 false := ⟨(hB2.block _ (by omega)).trans b1.b0, (hB2.block _ (by omega)).trans b1.b1, (hB2.block _ (by omega)).trans b1.b2, (hB2.block _ (by omega)).trans b1.b3, (hB2.block _ (by omega)).trans b1.b4⟩
  refine wpIn_rangeFunc_ownG rfl (by decide : 1 ≤ 3) (gf := 123) (lb := #[.pointer (some ⟨W1.heap.size + 1, 0, none⟩), .pointer (some ⟨W1.heap.size, 0, none⟩)]) rfl trivial (enters_of Tryz.func123 (by kernel_rfl) rfl)
    (pahead_stops (3 - 1) (by decide) p W1.heap.size (W1.heap.size + 1) bb' nn' w.heap.size m n hn xs hx hpl hbb W2 (by omega) (by omega) (by omega) (cell_box b3).1 hse) (fun h g => h.trans g) (keep_b (by omega) (by omega)) (Below.refl _ _) (fun _ => rfl)
    (fun pre W => SI m w.heap.size p xv pre W ∧ Below w.heap.size w W)
    (fun c pre W => SX m n w.heap.size p c pre W ∧ Below w.heap.size w W)
    (OwnFrom.and (Own.from (si_own m w.heap.size p xv) _) (ownFrom_below (Nat.le_refl _) (by omega)))
    (fun c => OwnFrom.and (Own.from (sx_own m n w.heap.size p c) _) (ownFrom_below (Nat.le_refl _) (by omega)))
    ⟨.inl ⟨rfl, d1⟩, bnext hB1 hB2⟩
    (fun x => { tmps := #[.pointer (some ⟨p, 0, none⟩), .int .u64 n, .pointer (some ⟨w.heap.size, 0, none⟩), undef, .pointer (some ⟨w.heap.size + 1, 0, none⟩), .pointer (some ⟨w.heap.size + 1 + 1, 0, none⟩), .pointer (some ⟨w.heap.size + 1 + 1 + 1, 0, none⟩), .pointer (some ⟨w.heap.size + 1 + 1 + 1 + 1, 0, none⟩), .int .u64 x.1, .pointer (some ⟨p, 0, none⟩), .pointer (some ⟨p, 0, none⟩), .pointer (some ⟨p, 19, none⟩), .map (some bb), .int .u64 n, .agg #[.int .i64 xv, .int .i64 xjv, .int .u64 xjb, .int .u64 x0, .int .u64 x1, .int .u64 x2, .int .u64 x3, .string xc], .int .i64 xv, .pointer (some ⟨p, 0, none⟩), .int .u64 n, .func (.func 123) #[] #[.pointer (some ⟨W1.heap.size + 1, 0, none⟩), .pointer (some ⟨W1.heap.size, 0, none⟩)], .int .u64 x.1, undef, undef, undef, undef, undef, undef, undef, undef, undef, undef, undef, undef, undef, undef, undef, undef, undef, undef], defers := [] }) ?assign ?body ?done ?stop
  case assign =>
    clear hs1
    intro l x W K hK
    gi_wp2
    exact hK
  case body =>
    have HS1 : Hid (W1.heap.size = w.heap.size + 1 + 1 + 1 + 1 + 1) := hs1
    clear hs1 hs2 hB1 hB2 b1 b3 d1 hse hbb hpl c19
    rintro l pre x W ⟨hI, hB⟩ _
    obtain ⟨⟨yv, ⟨yjv, yjb, y0, y1, y2, y3⟩, yc⟩, hyb⟩ : ∃ y, y = (m.block x.1).getD Blk.zero := ⟨_, rfl⟩
    have hyv : m.vw x.1 = yv := by unfold Mem.vw; rw [← hyb]
    have hLK : ∀ W, Below w.heap.size w W → (Instr.lookup 78 (.map (some bb)) (.int .u64 x.1) false).run Tryz.prog W = .ok (.agg #[.int .i64 yv, .int .i64 yjv, .int .u64 yjb, .int .u64 y0, .int .u64 y1, .int .u64 y2, .int .u64 y3, .string yc]) W := fun W hW => by
      have := HLK.out x.1 W x.2 hW
      rwa [← hyb] at this
    have hmx : Tryz.prog.follows .mixedOrders = true := by kernel_rfl
    have hw1 : IntKind.i64.wrap (xv - 1) = xv - 1 := by have := HV.out; rw [IntKind.wrap_i64]; omega
    have hw2 : IntKind.i64.wrap (xv - 1 - 1) = xv - 1 - 1 := by have := HV.out; rw [IntKind.wrap_i64]; omega
    rcases hI with ⟨rfl, hb⟩ | ⟨z, rfl, hz, hb⟩
    · have hb' := hb.step (xv - 1) 1
      have hB' : Below w.heap.size w ((W.setCell ⟨w.heap.size + 1 + 1 + 1, 0, none⟩ (.int .i64 (xv - 1))).setCell ⟨w.heap.size + 1 + 1 + 1 + 1, 0, none⟩ (.int .i64 1)) := (hB.setCell (p := ⟨w.heap.size + 1 + 1 + 1, 0, none⟩) (by show w.heap.size ≤ w.heap.size + 1 + 1 + 1; omega) _).setCell (p := ⟨w.heap.size + 1 + 1 + 1 + 1, 0, none⟩) (by show w.heap.size ≤ w.heap.size + 1 + 1 + 1 + 1; omega) _
      have hl : ∀ k, _ := fun k => hLK _ (below_drewN hB' k)
      have hcc := HC.out _ hB'
      obtain ⟨c0, f0⟩ := cell_box hb'.b0
      obtain ⟨c3, f3⟩ := cell_box hb.b3
      obtain ⟨c4, f4⟩ := cell_box hb.b4
      obtain ⟨c3', f3'⟩ := cell_box hb'.b3
      obtain ⟨c4', f4'⟩ := cell_box hb'.b4
      clear hLK HLK HC HP
      by_cases hv : yv = xv - 1
      · have hne : (yv != xv - 1) = false := by simp [hv]
        gi_wp2
        refine wpIn_region_quiet_round (by kernel_rfl) (by kernel_rfl) (by simp) ?_
        repeat (gi_big_quiet_step (fail))
        refine wpQuietIn_nil ?_
        rintro _ ⟨nq, rfl⟩
        gi_wp2
        exact ⟨(((KeepsOthers.setCell _ _ _).trans (KeepsOthers.setCell _ _ _)).trans (keepsOthers_drewN _ _)).from _, (((keep_set (by omega) (by have := HS1.out; omega) _).trans (keep_set (by omega) (by have := HS1.out; omega) _)).trans (keep_drewN _ _)), .inr ⟨x, rfl, hyv.trans hv, hb'.drewN _⟩, below_drewN hB' _⟩
      · have hne : (yv != xv - 1) = true := by simp [hv]
        gi_wp2
        refine wpIn_region_quiet_round (by kernel_rfl) (by kernel_rfl) (by simp) ?_
        repeat (gi_big_quiet_step (fail))
        refine wpQuietIn_nil ?_
        rintro _ ⟨nq, rfl⟩
        gi_wp2
        exact ⟨(((KeepsOthers.setCell _ _ _).trans (KeepsOthers.setCell _ _ _)).trans (keepsOthers_drewN _ _)).from _, ⟨.inl rfl, 0, false, fun zs hz => settles_no1 hz (by rw [hyv, hxv]; exact hv), fun _ => ⟨rfl, rfl⟩, _, _, hb'.drewN _⟩, below_drewN hB' _⟩
    · have hb' := hb.step (xv - 1 - 1) 2
      have hB' : Below w.heap.size w ((W.setCell ⟨w.heap.size + 1 + 1 + 1, 0, none⟩ (.int .i64 (xv - 1 - 1))).setCell ⟨w.heap.size + 1 + 1 + 1 + 1, 0, none⟩ (.int .i64 2)) := (hB.setCell (p := ⟨w.heap.size + 1 + 1 + 1, 0, none⟩) (by show w.heap.size ≤ w.heap.size + 1 + 1 + 1; omega) _).setCell (p := ⟨w.heap.size + 1 + 1 + 1 + 1, 0, none⟩) (by show w.heap.size ≤ w.heap.size + 1 + 1 + 1 + 1; omega) _
      have hl : ∀ k, _ := fun k => hLK _ (below_drewN hB' k)
      have hcc := HC.out _ hB'
      obtain ⟨c0, f0⟩ := cell_box hb'.b0
      obtain ⟨c1, f1⟩ := cell_box hb'.b1
      obtain ⟨c2, f2⟩ := cell_box hb'.b2
      obtain ⟨c3, f3⟩ := cell_box hb.b3
      obtain ⟨c4, f4⟩ := cell_box hb.b4
      obtain ⟨c3', f3'⟩ := cell_box hb'.b3
      obtain ⟨c4', f4'⟩ := cell_box hb'.b4
      clear hLK HLK HC HP
      by_cases hv : yv = xv - 1 - 1
      · have hne : (yv != xv - 1 - 1) = false := by simp [hv]
        obtain ⟨f, hf⟩ : ∃ f, f = (x.1 != 0) := ⟨_, rfl⟩
        have hq : ((x.1 : Int) != 0) = f := by rw [hf]; cases h : (x.1 != 0) <;> simp at h ⊢ <;> omega
        gi_wp2
        refine wpIn_region_quiet_round (by kernel_rfl) (by kernel_rfl) (by simp) ?_
        repeat (gi_big_quiet_step (fail))
        refine wpQuietIn_nil ?_
        rintro _ ⟨nq, rfl⟩
        gi_wp2
        refine ⟨(((((KeepsOthers.setCell _ _ _).trans (KeepsOthers.setCell _ _ _)).trans (keepsOthers_drewN _ _)).trans (KeepsOthers.setCell _ _ _)).trans (KeepsOthers.setCell _ _ _)).from _, ⟨.inr rfl, x.1, (x.1 != 0), fun zs hz' => settles_yes hz' (by rw [hz, hxv]) (by rw [hyv, hxv]; omega), (fun h => by cases h), (xv - 1 - 1), 2, ?_⟩, ?_⟩
        · exact (hb'.drewN _).fin _ _
        · exact ((below_drewN hB' _).setCell (p := ⟨w.heap.size + 1, 0, none⟩) (by show w.heap.size ≤ w.heap.size + 1; omega) _).setCell (p := ⟨w.heap.size + 1 + 1, 0, none⟩) (by show w.heap.size ≤ w.heap.size + 1 + 1; omega) _
      · have hne : (yv != xv - 1 - 1) = true := by simp [hv]
        gi_wp2
        refine wpIn_region_quiet_round (by kernel_rfl) (by kernel_rfl) (by simp) ?_
        repeat (gi_big_quiet_step (fail))
        refine wpQuietIn_nil ?_
        rintro _ ⟨nq, rfl⟩
        gi_wp2
        exact ⟨(((KeepsOthers.setCell _ _ _).trans (KeepsOthers.setCell _ _ _)).trans (keepsOthers_drewN _ _)).from _, ⟨.inl rfl, 0, false, fun zs hz' => settles_no2 hz' (by rw [hyv, hxv]; omega), fun _ => ⟨rfl, rfl⟩, _, _, hb'.drewN _⟩, below_drewN hB' _⟩
  case done =>
    have HS1 : Hid (W1.heap.size = w.heap.size + 1 + 1 + 1 + 1 + 1) := hs1
    clear hs1 hB1 hB2 b1 b3 d1 hse hbb hpl c19
    rintro D ys W hD rfl ⟨hI, hB⟩ hK
    obtain ⟨v, k, hb, hset⟩ : ∃ v k, SBox w.heap.size W p 0 v k false ∧ m.settles n ys = (0, false) := by
      rcases hI with ⟨rfl, hb⟩ | ⟨z, rfl, hz, hb⟩
      · exact ⟨_, _, hb, rfl⟩
      · exact ⟨_, _, hb, rfl⟩
    obtain ⟨c1, f1⟩ := cell_box hb.b1
    obtain ⟨c2, f2⟩ := cell_box hb.b2
    have hb' : SBox w.heap.size ((W.setCell ⟨w.heap.size + 1, 0, none⟩ (.int .u64 0)).setCell ⟨w.heap.size + 1 + 1, 0, none⟩ (.bool false)) p 0 v k false := hb.fin 0 false
    gi_wp2
    have hK' := ((KeepsOthers.setCell W ⟨w.heap.size + 1, 0, none⟩ (.int .u64 0)).trans (KeepsOthers.setCell _ ⟨w.heap.size + 1 + 1, 0, none⟩ (.bool false))).same D _ hK rfl
    refine ⟨by simp, .inl ⟨_, _, rfl, run_takeDeferred hK', ?_⟩⟩
    obtain ⟨d1, _⟩ := cell_box hb'.b1
    obtain ⟨d2, _⟩ := cell_box hb'.b2
    have e1 := cell_kept d1 (grownBy_putObj' _ D (.deferred none)) (fun r e => by cases e; exact ⟨_, hK', rfl⟩)
    have e2 := cell_kept d2 (grownBy_putObj' _ D (.deferred none)) (fun r e => by cases e; exact ⟨_, hK', rfl⟩)
    refine ⟨.tuple #[.int .u64 0, .bool false], ?_, by first | rfl | (rw [hset]; rfl), ((hB.setCell (p := ⟨w.heap.size + 1, 0, none⟩) (by show w.heap.size ≤ w.heap.size + 1; omega) _).setCell (p := ⟨w.heap.size + 1 + 1, 0, none⟩) (by show w.heap.size ≤ w.heap.size + 1 + 1; omega) _).trans (belowK_b (w := w) (Nat.le_refl _) _ D _ _ (by have := HS1.out; omega) hK' rfl rfl)⟩
    simp [results, Tryz.f113, go_sem, e1, e2]
  case stop =>
    have HS1 : Hid (W1.heap.size = w.heap.size + 1 + 1 + 1 + 1 + 1) := hs1
    clear hs1 hB1 hB2 b1 b3 d1 hse hbb hpl c19
    rintro D c pre W hD hpre ⟨⟨hc, a, f, hset', hex, v, k, hb⟩, hB⟩ hK
    have hset := hset' xs hpre
    rcases hc with rfl | rfl
    · obtain ⟨rfl, rfl⟩ := hex rfl
      obtain ⟨c1, f1⟩ := cell_box hb.b1
      obtain ⟨c2, f2⟩ := cell_box hb.b2
      have hb' : SBox w.heap.size ((W.setCell ⟨w.heap.size + 1, 0, none⟩ (.int .u64 0)).setCell ⟨w.heap.size + 1 + 1, 0, none⟩ (.bool false)) p 0 v k false := hb.fin 0 false
      gi_wp2
      have hK' := ((KeepsOthers.setCell W ⟨w.heap.size + 1, 0, none⟩ (.int .u64 0)).trans (KeepsOthers.setCell _ ⟨w.heap.size + 1 + 1, 0, none⟩ (.bool false))).same D _ hK rfl
      refine ⟨by simp, .inl ⟨_, _, rfl, run_takeDeferred hK', ?_⟩⟩
      obtain ⟨d1, _⟩ := cell_box hb'.b1
      obtain ⟨d2, _⟩ := cell_box hb'.b2
      have e1 := cell_kept d1 (grownBy_putObj' _ D (.deferred none)) (fun r e => by cases e; exact ⟨_, hK', rfl⟩)
      have e2 := cell_kept d2 (grownBy_putObj' _ D (.deferred none)) (fun r e => by cases e; exact ⟨_, hK', rfl⟩)
      refine ⟨.tuple #[.int .u64 0, .bool false], ?_, by first | rfl | (rw [hset]; rfl), ((hB.setCell (p := ⟨w.heap.size + 1, 0, none⟩) (by show w.heap.size ≤ w.heap.size + 1; omega) _).setCell (p := ⟨w.heap.size + 1 + 1, 0, none⟩) (by show w.heap.size ≤ w.heap.size + 1 + 1; omega) _).trans (belowK_b (w := w) (Nat.le_refl _) _ D _ _ (by have := HS1.out; omega) hK' rfl rfl)⟩
      simp [results, Tryz.f113, go_sem, e1, e2]
    · obtain ⟨c1, f1⟩ := cell_box hb.b1
      obtain ⟨c2, f2⟩ := cell_box hb.b2
      gi_wp2
      refine ⟨by simp, .inl ⟨_, _, rfl, run_takeDeferred hK, ?_⟩⟩
      have e1 := cell_kept c1 (grownBy_putObj' _ D (.deferred none)) (fun r e => by cases e; exact ⟨_, hK, rfl⟩)
      have e2 := cell_kept c2 (grownBy_putObj' _ D (.deferred none)) (fun r e => by cases e; exact ⟨_, hK, rfl⟩)
      refine ⟨.tuple #[.int .u64 a, .bool f], ?_, by first | rfl | rw [hset], hB.trans (belowK_b (w := w) (Nat.le_refl _) _ D _ _ (by have := HS1.out; omega) hK rfl rfl)⟩
      simp [results, Tryz.f113, go_sem, e1, e2]
end Go.Proofs.YtkehpnobidendaaGreatDoor
