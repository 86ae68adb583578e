/- The program's member in memory (PMem): its record, its two slices, its three maps, against the model's member. The program's member: View, High, Locked, Submit, what is old, what is dropped (forget), enter. The program's member: what is dropped (forget), and enter. The program's member: enter, leader, a roll's count, its Enter letter. The program's member: its letters. The program's member: know, knows. The program's member: Log. -/
import Derived.Test.YtkehpnobidendaaGreatDoorM16
import Derived.Test.YtkehpnobidendaaGreatDoorM18
import Derived.Deep.QuietTactic
import Derived.Deep.DeepCutAuto
import Derived.Deep.RegionHeld3
import Derived.Deep.DrawnRows
import Derived.Deep.RegionLaw
namespace Go.Proofs.YtkehpnobidendaaGreatDoor
open Go.RowKit Go.Maps

/-- The table that the library reads. -/
structure Tab (w : World) : Prop where
  is : Lib.TabIs Tryz.prog w "internal/strconv.uint64pow10" .u64 Lib.pow10Tab
theorem tab_block : Tryz.prog.globalNamed "internal/strconv.uint64pow10" = some 0 := by kernel_rfl
theorem Tab.same {w w' : World} (h : Tab w) (hb : w'.heap[0]? = w.heap[0]?) : Tab w' := by
  refine ⟨?_⟩
  have := h.is
  unfold Lib.TabIs World.var? at *
  simp only [tab_block, Option.bind_some] at this ⊢
  rw [hb]; exact this
theorem Tab.pos {w : World} (h : Tab w) : 0 < w.heap.size := by
  have := h.is
  unfold Lib.TabIs World.var? at this
  simp only [tab_block, Option.bind_some] at this
  rcases Nat.lt_or_ge 0 w.heap.size with h' | h'
  · exact h'
  · rw [Array.getElem?_eq_none h'] at this; simp at this
theorem Tab.below {w w' : World} (h : Tab w) (hf : Below w.heap.size w w') : Tab w' := h.same (hf.block 0 h.pos)
theorem Tab.fr {w w' : World} {S : Nat → Prop} (h : Tab w) (hf : Fr S w w') (h0 : ¬ S 0) : Tab w' := h.same (hf.block 0 h.pos h0)

/-- A block's value. -/
def Blk.val (b : Blk) : Value := .agg b.cells.toArray
def isBlk (v : Value) : Prop := ∃ b : Blk, v = b.val
/-- What the map of blocks has. -/
def bmap (m : Mem) : Int → Option Value := fun x => (m.block x.toNat).map Blk.val
/-- The roll of some votes, or Enters. -/
def rl (l : List Tk) : Rl := ⟨l.any (fun t => t.fro == 0), l.any (fun t => t.fro == 1), l.any (fun t => t.fro == 2), l.any (fun t => t.fro == 3)⟩
def Rl.none : Rl := ⟨false, false, false, false⟩
def Vr.none : Vr := ⟨false, Rl.none⟩
def Mem.entered (m : Mem) (v : Int) : List Tk := m.enters.filter (fun t => t.view == v)
def vr (m : Mem) (v : Int) : Vr := ⟨m.proposed.contains v, rl (m.entered v)⟩
/-- Is a vote of this view old? -/
def Mem.old (m : Mem) (v : Int) : Bool := decide (v < m.view - 1) || decide (v ≤ m.high.view)
def Mem.vw (m : Mem) (n : Nat) : Int := ((m.block n).getD Blk.zero).view
/-- What is kept of votes and of views tells what the model has, but for what is old. -/
structure VOk (m : Mem) (f : Int → Option Value) : Prop where
  ok : ∀ n : Nat, m.old (m.vw n) = false → (f n).getD (rollV Rl.none) = rollV (rl (m.votesFor n))
  un : ∀ n : Nat, m.block n = none → f n = none ∧ m.votesFor n = []
structure WOk (m : Mem) (f : Int → Option Value) : Prop where
  ok : ∀ v, m.view ≤ v → (f v).getD (recV Vr.none) = recV (vr m v)

def qcells (m : Mem) (vq vl : Value) (bb bv bw : Nat) : Array Value :=
  #[.int .i64 m.id, .int .i64 m.patience, .int .i64 m.view, .int .i64 m.waited, .int .i64 m.voted,
    .int .i64 m.high.view, .int .u64 m.high.block, .int .u64 m.high.s0, .int .u64 m.high.s1, .int .u64 m.high.s2, .int .u64 m.high.s3,
    .int .i64 m.locked.view, .int .u64 m.locked.block, .int .u64 m.locked.s0, .int .u64 m.locked.s1, .int .u64 m.locked.s2, .int .u64 m.locked.s3,
    vq, vl, .map (some bb), .map (some bv), .map (some bw)]
def qE : List (TypeId × Nat) := [(9, 1), (36, 1)]
def qX (m : Mem) : List (Nat × List Value) := [(m.queue.length, m.queue.flatMap scells), (m.log.length, m.log.flatMap ncells)]
/-- Its maps. -/
structure PMaps (w : World) (S : Nat → Prop) (bb bv bw : Nat) (m : Mem) : Prop where
  sb : S bb
  sv : S bv
  sw : S bw
  n1 : bb ≠ bv
  n2 : bb ≠ bw
  n3 : bv ≠ bw
  mb : ∃ n, n ≤ m.blocks.length ∧ IMap Tryz.prog 36 .u64 isBlk w bb n (bmap m)
  mv : ∃ n f, n ≤ m.votes.length ∧ IMap Tryz.prog 36 .u64 isRoll w bv n f ∧ VOk m f
  mw : ∃ n f, n ≤ m.enters.length + m.proposed.length ∧ IMap Tryz.prog 3 .i64 isRec w bw n f ∧ WOk m f
theorem PMaps.same {w w' : World} {S S' : Nat → Prop} {bb bv bw : Nat} {m : Mem} (h : PMaps w S bb bv bw m) (hb : ∀ k, S k → (k = bb ∨ k = bv ∨ k = bw) → w'.heap[k]? = w.heap[k]?) (hs : ∀ k, S k → S' k) : PMaps w' S' bb bv bw m := by
  obtain ⟨n, hn, h1⟩ := h.mb
  obtain ⟨n2, f2, hn2, h2, o2⟩ := h.mv
  obtain ⟨n3, f3, hn3, h3, o3⟩ := h.mw
  exact ⟨hs _ h.sb, hs _ h.sv, hs _ h.sw, h.n1, h.n2, h.n3, ⟨n, hn, h1.same (hb _ h.sb (.inl rfl))⟩, ⟨n2, f2, hn2, h2.same (hb _ h.sv (.inr (.inl rfl))), o2⟩, ⟨n3, f3, hn3, h3.same (hb _ h.sw (.inr (.inr rfl))), o3⟩⟩
theorem PMaps.lts {w : World} {S : Nat → Prop} {bb bv bw : Nat} {m : Mem} (h : PMaps w S bb bv bw m) : bb < w.heap.size ∧ bv < w.heap.size ∧ bw < w.heap.size := by
  obtain ⟨n, hn, h1⟩ := h.mb
  obtain ⟨n2, f2, hn2, h2, o2⟩ := h.mv
  obtain ⟨n3, f3, hn3, h3, o3⟩ := h.mw
  exact ⟨h1.lt, h2.lt, h3.lt⟩
/-- A map is no row. -/
theorem IMap.notCells {P : Program} {k : TypeId} {q : IntKind} {sh : Value → Prop} {w : World} {b n : Nat} {f : Int → Option Value} (h : IMap P k q sh w b n f) {C : Array Value} {T : TypeId} {fz : Nat × Nat} : w.heap[b]? ≠ some (.cells C T fz) := by
  obtain ⟨D, ⟨es, clock, h1, _⟩, _⟩ := h
  rw [h1]; simp
theorem PMaps.ne {w : World} {S : Nat → Prop} {bb bv bw : Nat} {m : Mem} (h : PMaps w S bb bv bw m) {k : Nat} {C : Array Value} {T : TypeId} {fz : Nat × Nat} (hk : w.heap[k]? = some (.cells C T fz)) : bb ≠ k ∧ bv ≠ k ∧ bw ≠ k := by
  obtain ⟨n, hn, h1⟩ := h.mb
  obtain ⟨n2, f2, hn2, h2, o2⟩ := h.mv
  obtain ⟨n3, f3, hn3, h3, o3⟩ := h.mw
  exact ⟨fun e => h1.notCells (e ▸ hk), fun e => h2.notCells (e ▸ hk), fun e => h3.notCells (e ▸ hk)⟩
/-- The model turned where the maps do not look, or what they keep is told still. -/
theorem PMaps.model {w : World} {S : Nat → Prop} {bb bv bw : Nat} {m m' : Mem} (h : PMaps w S bb bv bw m) (hb : m'.blocks = m.blocks) (hv : m'.votes = m.votes) (he : m'.enters = m.enters) (hp : m'.proposed = m.proposed) (h1 : m.view ≤ m'.view) (h2 : m.high.view ≤ m'.high.view) : PMaps w S bb bv bw m' := by
  have hbl : ∀ n, m'.block n = m.block n := fun n => by unfold Mem.block; rw [hb]
  refine ⟨h.sb, h.sv, h.sw, h.n1, h.n2, h.n3, ?_, ?_, ?_⟩
  · obtain ⟨n, hn, h3⟩ := h.mb
    exact ⟨n, by rw [hb]; exact hn, h3.fun (fun x _ => by unfold bmap; rw [hbl])⟩
  · obtain ⟨n, f, hn, h3, o⟩ := h.mv
    refine ⟨n, f, by rw [hv]; exact hn, h3, ⟨fun k hk => ?_, fun k hk => ?_⟩⟩
    rotate_left
    · have := o.un k (by rw [← hbl]; exact hk)
      refine ⟨this.1, ?_⟩
      unfold Mem.votesFor at *
      rw [hv]; exact this.2
    have e : m'.vw k = m.vw k := by unfold Mem.vw; rw [hbl]
    have ho : m.old (m.vw k) = false := by
      rw [e] at hk
      unfold Mem.old at *
      simp only [Bool.or_eq_false_iff, decide_eq_false_iff_not] at *
      omega
    have := o.ok k ho
    unfold Mem.votesFor at *
    rw [hv]; exact this
  · obtain ⟨n, f, hn, h3, o⟩ := h.mw
    refine ⟨n, f, by rw [he, hp]; exact hn, h3, ⟨fun v hv' => ?_⟩⟩
    have := o.ok v (by omega)
    unfold vr Mem.entered at *
    rw [he, hp]; exact this

/-- The program's member at p. -/
structure PMem (w : World) (p : Nat) (S : Nat → Prop) (m : Mem) : Prop where
  ex : ∃ vq vl bb bv bw, Bun w p 82 S (qcells m vq vl bb bv bw) [vq, vl] qE (qX m) ∧ PMaps w S bb bv bw m
  tab : Tab w
  t0 : ¬ S 0
theorem PMem.lt {w : World} {p : Nat} {S : Nat → Prop} {m : Mem} (h : PMem w p S m) : ∀ k, S k → k < w.heap.size := by
  obtain ⟨vq, vl, bb, bv, bw, h1, h2⟩ := h.ex
  exact h1.lt
theorem PMem.sp {w : World} {p : Nat} {S : Nat → Prop} {m : Mem} (h : PMem w p S m) : S p := by
  obtain ⟨vq, vl, bb, bv, bw, h1, h2⟩ := h.ex
  exact h1.sp
theorem PMem.fr {w w' : World} {p : Nat} {S Z : Nat → Prop} {m : Mem} (h : PMem w p S m) (hf : Fr Z w w') (hz : ∀ k, S k → ¬ Z k) (hz0 : ¬ Z 0) : PMem w' p S m := by
  obtain ⟨vq, vl, bb, bv, bw, h1, h2⟩ := h.ex
  exact ⟨⟨vq, vl, bb, bv, bw, h1.fr hf hz, h2.same (fun k hk _ => hf.block k (h1.lt k hk) (hz k hk)) (fun _ h => h)⟩, h.tab.fr hf hz0, h.t0⟩
theorem PMem.below {w w' : World} {p : Nat} {S : Nat → Prop} {m : Mem} (h : PMem w p S m) (hf : Below w.heap.size w w') : PMem w' p S m := by
  obtain ⟨vq, vl, bb, bv, bw, h1, h2⟩ := h.ex
  exact ⟨⟨vq, vl, bb, bv, bw, h1.below hf, h2.same (fun k hk _ => hf.block k (h1.lt k hk)) (fun _ h => h)⟩, h.tab.below hf, h.t0⟩
theorem PMem.heap {w w' : World} {p : Nat} {S : Nat → Prop} {m : Mem} (h : PMem w p S m) (hf : w'.heap = w.heap) : PMem w' p S m := by
  obtain ⟨vq, vl, bb, bv, bw, h1, h2⟩ := h.ex
  exact ⟨⟨vq, vl, bb, bv, bw, h1.same (by rw [hf]; exact Nat.le_refl _) (fun _ _ => by rw [hf]), h2.same (fun k hk _ => by rw [hf]) (fun _ h => h)⟩, h.tab.same (by rw [hf]), h.t0⟩
theorem PMem.alloc {w : World} {p : Nat} {S : Nat → Prop} {m : Mem} (h : PMem w p S m) (o : Obj) : PMem (w.alloc o) p S m := h.below ((Below.refl _ _).alloc (Nat.le_refl _) o)
/-- What is read off it. -/
structure PSee (w : World) (p : Nat) (m : Mem) : Prop where
  c0 : w.cell? ⟨p, 0, none⟩ = some (.int .i64 m.id)
  c1 : w.cell? ⟨p, 1, none⟩ = some (.int .i64 m.patience)
  c2 : w.cell? ⟨p, 2, none⟩ = some (.int .i64 m.view)
  c3 : w.cell? ⟨p, 3, none⟩ = some (.int .i64 m.waited)
  c4 : w.cell? ⟨p, 4, none⟩ = some (.int .i64 m.voted)
  c5 : w.cell? ⟨p, 5, none⟩ = some (.int .i64 m.high.view)
  c6 : w.cell? ⟨p, 6, none⟩ = some (.int .u64 m.high.block)
  c7 : w.cell? ⟨p, 7, none⟩ = some (.int .u64 m.high.s0)
  c8 : w.cell? ⟨p, 8, none⟩ = some (.int .u64 m.high.s1)
  c9 : w.cell? ⟨p, 9, none⟩ = some (.int .u64 m.high.s2)
  c10 : w.cell? ⟨p, 10, none⟩ = some (.int .u64 m.high.s3)
  c11 : w.cell? ⟨p, 11, none⟩ = some (.int .i64 m.locked.view)
  c12 : w.cell? ⟨p, 12, none⟩ = some (.int .u64 m.locked.block)
  c13 : w.cell? ⟨p, 13, none⟩ = some (.int .u64 m.locked.s0)
  c14 : w.cell? ⟨p, 14, none⟩ = some (.int .u64 m.locked.s1)
  c15 : w.cell? ⟨p, 15, none⟩ = some (.int .u64 m.locked.s2)
  c16 : w.cell? ⟨p, 16, none⟩ = some (.int .u64 m.locked.s3)
  lt : p < w.heap.size
  fz : ∀ i, w.frozen? ⟨p, i, none⟩ = false
theorem PMem.see {w : World} {p : Nat} {S : Nat → Prop} {m : Mem} (h : PMem w p S m) : PSee w p m := by
  obtain ⟨vq, vl, bb, bv, bw, h1, h2⟩ := h.ex
  exact ⟨cell_at h1.box 0, cell_at h1.box 1, cell_at h1.box 2, cell_at h1.box 3, cell_at h1.box 4, cell_at h1.box 5, cell_at h1.box 6, cell_at h1.box 7, cell_at h1.box 8, cell_at h1.box 9, cell_at h1.box 10, cell_at h1.box 11, cell_at h1.box 12, cell_at h1.box 13, cell_at h1.box 14, cell_at h1.box 15, cell_at h1.box 16, lt_at h1.box, free_at h1.box⟩
/-- A store into its record, that no map looks at, or that makes more of them old. -/
theorem PMem.set {w : World} {p : Nat} {S : Nat → Prop} {m : Mem} (h : PMem w p S m) (m' : Mem) (o : Nat) (x : Value)
    (hC : ∀ vq vl bb bv bw, (qcells m vq vl bb bv bw).setIfInBounds o x = qcells m' vq vl bb bv bw) (hX : qX m = qX m') (hb : m'.blocks = m.blocks) (hv : m'.votes = m.votes) (he : m'.enters = m.enters) (hp : m'.proposed = m.proposed) (h1 : m.view ≤ m'.view) (h2 : m.high.view ≤ m'.high.view) :
    PMem (w.setCell ⟨p, o, none⟩ x) p S m' := by
  obtain ⟨vq, vl, bb, bv, bw, g1, g2⟩ := h.ex
  have hne := g2.ne g1.box
  have b := g1.store o x (hC vq vl bb bv bw)
  rw [hX] at b
  refine ⟨⟨vq, vl, bb, bv, bw, b, (g2.model hb hv he hp h1 h2).same (fun k _ hk => heap_store_ne x (by rcases hk with rfl | rfl | rfl; exact hne.1; exact hne.2.1; exact hne.2.2)) (fun _ h => h)⟩, ?_, h.t0⟩
  exact h.tab.same (heap_store_ne x (fun e => h.t0 (e ▸ h.sp)))
/-- The zeros. -/
theorem zero_roll (w : World) : (zeroValue 119).run Tryz.prog w = .ok (rollV Rl.none) w := by kernel_rfl
theorem zero_rec (w : World) : (zeroValue 121).run Tryz.prog w = .ok (recV Vr.none) w := by kernel_rfl
theorem zero_blk (w : World) : (zeroValue 41).run Tryz.prog w = .ok Blk.zero.val w := by kernel_rfl
theorem bmap_get (m : Mem) (n : Nat) : (bmap m (n : Int)).getD Blk.zero.val = ((m.block n).getD Blk.zero).val := by
  unfold bmap
  simp only [Int.toNat_natCast]
  cases m.block n <;> rfl
theorem bmap_some (m : Mem) (n : Nat) : (bmap m (n : Int)).isSome = (m.block n).isSome := by
  unfold bmap
  simp only [Int.toNat_natCast]
  cases m.block n <;> rfl
theorem wf_u64 {n : Nat} (h : n < 18446744073709551616) : (Lit.int .u64 (n : Int)).wf = true := by
  have h1 : IntKind.u64.min = 0 := rfl
  have h2 : IntKind.u64.max = 18446744073709551615 := rfl
  simp only [Lit.wf, h1, h2, Bool.and_eq_true, decide_eq_true_eq]
  omega
theorem wf_i64 {n : Int} (h0 : -9223372036854775808 ≤ n) (h : n ≤ 9223372036854775807) : (Lit.int .i64 n).wf = true := by
  have h1 : IntKind.i64.min = -9223372036854775808 := rfl
  have h2 : IntKind.i64.max = 9223372036854775807 := rfl
  simp only [Lit.wf, h1, h2, Bool.and_eq_true, decide_eq_true_eq]
  exact ⟨h0, h⟩
end Go.Proofs.YtkehpnobidendaaGreatDoor

namespace Go.Proofs.YtkehpnobidendaaGreatDoor
open Go.RowKit Go.Maps

/-- A result that lies in a variable of its own. -/
theorem results_cell {fn : Func} {a : Tmp} {t : TypeId} (h : fn.results = #[.cell a t]) {tmps : Array Value} {P : Program} {w : World} {g : Nat} {T : TypeId} {cs : Array Value} {fr : Nat × Nat} {d : TypeDesc} (ha : tmps.getD a undef = .pointer (some ⟨g, 0, none⟩)) (hg : w.heap[g]? = some (.cells cs T fr)) (hd : (match d with | .struct _ | .array _ _ => true | _ => false) = true) (hu : P.underlying t = some d) (hi : (P.info? t).map (·.size) = some cs.size) :
    (results fn tmps).run P w = .ok (.agg cs) w := by
  have := run_loadVar_row (P := P) w g T t cs fr d hg hu (by cases d <;> first | rfl | exact hd) hi
  rw [Array.getD_eq_getD_getElem?] at ha
  simp [results, h, ha, asAddr, this]
theorem pview (w : World) (p : Nat) (S : Nat → Prop) (m : Mem) (h : PMem w p S m) :
    Calls Tryz.prog 13 #[.pointer (some ⟨p, 0, none⟩)] w fun e w' => e = .returned (.int .i64 m.view) ∧ w' = w := by
  have c2 := h.see.c2
  clear h
  go_enter Tryz.func13, Tryz.ntmps13
  go_wp2
  go_ret
  exact ⟨rfl, rfl⟩
theorem phigh (w : World) (p : Nat) (S : Nat → Prop) (m : Mem) (h : PMem w p S m) :
    Calls Tryz.prog 14 #[.pointer (some ⟨p, 0, none⟩)] w fun e w' => e = .returned (.agg m.high.cells.toArray) ∧ Below w.heap.size w w' := by
  have hs := h.see
  have c5 := hs.c5
  have c6 := hs.c6
  have c7 := hs.c7
  have c8 := hs.c8
  have c9 := hs.c9
  have c10 := hs.c10
  have lt := hs.lt
  clear h hs
  go_enter Tryz.func14, Tryz.ntmps14
  go_wp2
  refine bodyPost_ret (results_cell rfl rfl (heap_alloc_new _ _) rfl Tryz.underlying39 (by kernel_rfl)) rfl ⟨rfl, below_alloc _ _⟩
theorem plocked (w : World) (p : Nat) (S : Nat → Prop) (m : Mem) (h : PMem w p S m) :
    Calls Tryz.prog 16 #[.pointer (some ⟨p, 0, none⟩)] w fun e w' => e = .returned (.agg m.locked.cells.toArray) ∧ Below w.heap.size w w' := by
  have hs := h.see
  have c5 := hs.c11
  have c6 := hs.c12
  have c7 := hs.c13
  have c8 := hs.c14
  have c9 := hs.c15
  have c10 := hs.c16
  have lt := hs.lt
  clear h hs
  go_enter Tryz.func16, Tryz.ntmps16
  go_wp2
  refine bodyPost_ret (results_cell rfl rfl (heap_alloc_new _ _) rfl Tryz.underlying39 (by kernel_rfl)) rfl ⟨rfl, below_alloc _ _⟩
set_option maxHeartbeats 1000000 in
theorem psubmit (w : World) (p : Nat) (S : Nat → Prop) (m : Mem) (h : PMem w p S m) (c : ByteArray) (hc : c.size ≤ 140737488351232) (hq : m.queue.length ≤ 8) :
    Calls Tryz.prog 11 #[.pointer (some ⟨p, 0, none⟩), .string c] w fun e w' => e = .returned (.int .i64 (m.submit c).2) ∧ ∃ S', PMem w' p S' (m.submit c).1 ∧ Grow S w S' ∧ Fr S w w' := by
  have HP : Hid (PMem w p S m) := h
  obtain ⟨vq, vl, bb, bv, bw, h1, h2⟩ := h.ex
  have ht := h.tab
  have ht0 := h.t0
  have hpos := ht.pos
  have hr : Row w S 9 1 vq m.queue.length (m.queue.flatMap scells) := h1.row 0 _ _ _ rfl rfl rfl
  have c17 : w.cell? ⟨p, 17, none⟩ = some vq := cell_at h1.box 17
  have fz := free_at h1.box
  obtain ⟨a, cap, rfl⟩ := hr.isSlice
  have H : Hid (Bun w p 82 S (qcells m (.slice a m.queue.length cap) vl bb bv bw) [.slice a m.queue.length cap, vl] qE (qX m)) := h1
  have HM : Hid (PMaps w S bb bv bw m) := h2
  have HR : Hid (Row w S 9 1 (.slice a m.queue.length cap) m.queue.length (m.queue.flatMap scells)) := hr
  have HT : Hid (Tab w) := ht
  have HT0 : Hid (¬ S 0) := ht0
  clear hr h1 h2 h ht ht0
  by_cases h16 : 16 < c.size
  · have K : Hid (m.submit c = (m, 1)) := by show m.submit c = _; unfold Mem.submit; rw [if_pos h16]
    go_enter Tryz.func11, Tryz.ntmps11
    go_wp2
    go_ret
    rw [K.out]
    exact ⟨rfl, S, HP.out, Grow.refl _ _, Fr.refl _ _⟩
  · by_cases h8 : 8 ≤ m.queue.length
    · have K : Hid (m.submit c = (m, 6)) := by show m.submit c = _; unfold Mem.submit; rw [if_neg h16, if_pos h8]
      go_enter Tryz.func11, Tryz.ntmps11
      go_wp2
      go_ret
      rw [K.out]
      exact ⟨rfl, S, HP.out, Grow.refl _ _, Fr.refl _ _⟩
    · have K : Hid (m.submit c = ({ m with queue := m.queue ++ [c] }, 0)) := by show m.submit c = _; unfold Mem.submit; rw [if_neg h16, if_neg h8]
      go_enter Tryz.func11, Tryz.ntmps11
      go_wp2_with (at_builtin; refine wpList_append_row rfl (.tmp 18) (.tmp 20) 30 rfl S 9 (.string ⟨#[]⟩) 1 16 Tryz.underlying30 info_string rfl (.slice a m.queue.length cap) m.queue.length (m.queue.flatMap scells) rfl (HR.out.alloc _) ⟨w.heap.size, 0, none⟩ 1 1 [.string c] rfl rfl one_cell (by simp [Value.oneCell']) (by omega) (by unfold maxLen; omega) (by omega) ?_; intro v' w1 hr' hf; obtain ⟨a', cap', rfl⟩ := hr'.isSlice; have hb1 := (H.out.alloc _).after 0 rfl hf; have d22 : w1.cell? ⟨p, 17, none⟩ = some (.slice a m.queue.length cap) := cell_at hb1 17; have fz1 := free_at hb1; clear hb1; have HR' : Hid _ := hr'; have HF : Hid (Fr _ _ w1) := hf; clear hr' hf)
      go_ret
      rw [K.out]
      have hF : Fr S w (w1.setCell ⟨p, 17, none⟩ (.slice a' (m.queue.length + 1) cap')) := (H.out.alloc _).frPut (Fr.alloc _ _ _) 0 rfl HF.out 17 _
      refine ⟨rfl, _, ⟨⟨.slice a' (m.queue.length + 1) cap', vl, bb, bv, bw, ((H.out.alloc _).put 0 rfl rfl _ (m.queue.length + 1, m.queue.flatMap scells ++ [.string c]) HR'.out HF.out 17 rfl rfl (by simp [qX, scells])), ?_⟩, HT.out.fr hF HT0.out, ?_⟩, grow_put HR'.out (by simp) (fun k hk => (HR.out.ownS hk).1), hF⟩
      · have hne := HM.out.ne H.out.box
        have hlt := HM.out.lts
        have hns : ∀ k, (k = bb ∨ k = bv ∨ k = bw) → (Value.slice a m.queue.length cap).ownBlock ≠ some k := fun k hk e => by
          rcases HR.out.2 with ⟨h0, _⟩ | ⟨g, off, cap2, cur, hv, _, hg, _⟩
          · rw [h0] at e; cases e
          · rw [hv] at e; cases e
            have := HM.out.ne hg
            rcases hk with rfl | rfl | rfl
            · exact this.1 rfl
            · exact this.2.1 rfl
            · exact this.2.2 rfl
        refine (HM.out.model (m' := { m with queue := m.queue ++ [c] }) rfl rfl rfl rfl (Int.le_refl _) (Int.le_refl _)).same (fun k _ hk => ?_) (fun k hk => .inl hk)
        rw [heap_store_ne _ (by rcases hk with rfl | rfl | rfl; exact hne.1; exact hne.2.1; exact hne.2.2)]
        have hkl : k < w.heap.size := by rcases hk with rfl | rfl | rfl; exact hlt.1; exact hlt.2.1; exact hlt.2.2
        rw [HF.out.block k (by simp; omega) (hns k hk), Below.heap_alloc _ _ _ hkl]
      · intro h0
        rcases h0 with h0 | h0
        · exact HT0.out h0
        · rcases (HR'.out.ownS h0).1 with h1 | h1
          · exact HT0.out (HR.out.ownS h1).1
          · simp at h1
            try omega
/-- isOldVote. -/
theorem pisOld (w : World) (p : Nat) (m : Mem) (v : Int) (c2 : w.cell? ⟨p, 2, none⟩ = some (.int .i64 m.view)) (c5 : w.cell? ⟨p, 5, none⟩ = some (.int .i64 m.high.view)) (v0 : 0 ≤ m.view) (v1 : m.view ≤ 1000) :
    Calls Tryz.prog 94 #[.pointer (some ⟨p, 0, none⟩), .int .i64 v] w fun e w' => e = .returned (.bool (m.old v)) ∧ w' = w := by
  have hw : IntKind.i64.wrap (m.view - 1) = m.view - 1 := by rw [IntKind.wrap_i64]; omega
  by_cases h1 : v < m.view - 1
  · have e : m.old v = true := by unfold Mem.old; simp [h1]
    rw [e]
    go_enter Tryz.func94, Tryz.ntmps94
    go_wp2
    go_ret
    exact ⟨rfl, rfl⟩
  · have e : m.old v = decide (v ≤ m.high.view) := by unfold Mem.old; simp [h1]
    rw [e]
    go_enter Tryz.func94, Tryz.ntmps94
    go_wp2
    go_ret
    exact ⟨rfl, rfl⟩
end Go.Proofs.YtkehpnobidendaaGreatDoor

namespace Go.Proofs.YtkehpnobidendaaGreatDoor
open Go.RowKit Go.Maps

/-- The fields of a block. -/
theorem fld_view (a b c d e f g h : Value) (w : World) : (Instr.field 41 (.agg #[a, b, c, d, e, f, g, h]) 0).run Tryz.prog w = .ok a w := by
  cases a <;> kernel_rfl
theorem fld_cmd (a b c d e f g h : Value) (w : World) : (Instr.field 41 (.agg #[a, b, c, d, e, f, g, h]) 2).run Tryz.prog w = .ok h w := by kernel_rfl
theorem pforget1 (W : World) (B p : Nat) (x view : Int) (v : Vr) (hB : W.cell? ⟨B, 0, none⟩ = some (.pointer (some ⟨p, 0, none⟩))) (hp : W.cell? ⟨p, 2, none⟩ = some (.int .i64 view)) (hBl : B < W.heap.size) (hpl : p < W.heap.size) :
    Calls Tryz.prog 91 #[.int .i64 x, recV v, .pointer (some ⟨B, 0, none⟩)] W fun e w' => e = .returned (.bool (decide (x < view))) ∧ W.grownBy w' none := by
  obtain ⟨vp, va, vb, vc, vd⟩ := v
  dsimp only [recV]
  go_enter Tryz.func91, Tryz.ntmps91
  go_wp2
  go_ret
  exact ⟨rfl, World.grownBy_alloc _ _ _⟩
set_option maxHeartbeats 1000000 in
theorem pforget2 (W : World) (B p bb nb : Nat) (m : Mem) (n : Nat) (hn : n < 18446744073709551616) (v : Rl) (hB : W.cell? ⟨B, 0, none⟩ = some (.pointer (some ⟨p, 0, none⟩))) (c2 : W.cell? ⟨p, 2, none⟩ = some (.int .i64 m.view)) (c5 : W.cell? ⟨p, 5, none⟩ = some (.int .i64 m.high.view)) (c19 : W.cell? ⟨p, 19, none⟩ = some (.map (some bb))) (hBl : B < W.heap.size) (hpl : p < W.heap.size) (v0 : 0 ≤ m.view) (v1 : m.view ≤ 1000)
    (hm : IMap Tryz.prog 36 .u64 isBlk W bb nb (bmap m)) :
    Calls Tryz.prog 93 #[.int .u64 n, rollV v, .pointer (some ⟨B, 0, none⟩)] W fun e w' => e = .returned (.bool (m.old (m.vw n))) ∧ W.grownBy w' none := by
  obtain ⟨va, vb, vc, vd⟩ := v
  dsimp only [rollV]
  have HM : Hid (IMap Tryz.prog 36 .u64 isBlk W bb nb (bmap m)) := hm
  have hlk : ∀ W' : World, W'.heap = (W.alloc (.cells #[.bool va, .bool vb, .bool vc, .bool vd] 119)).heap → (Instr.lookup 78 (.map (some bb)) (.int .u64 n) false).run Tryz.prog W' = .ok (((m.block n).getD Blk.zero).val) W' := fun W' hW' => by
    have h1 : IMap Tryz.prog 36 .u64 isBlk W' bb nb (bmap m) := HM.out.same (by rw [hW']; exact Below.heap_alloc _ _ _ HM.out.lt)
    have := h1.look Tryz.underlying36 Tryz.underlying78 (zero_blk _) ⟨_, rfl⟩ n (wf_u64 hn)
    rw [bmap_get] at this
    exact this
  obtain ⟨⟨xv, ⟨xjv, xjb, x0, x1, x2, x3⟩, xc⟩, hx⟩ : ∃ x, x = (m.block n).getD Blk.zero := ⟨_, rfl⟩
  have hvw : m.vw n = xv := by unfold Mem.vw; rw [← hx]
  rw [← hx] at hlk
  rw [hvw]
  dsimp only [Blk.val, Blk.cells] at hlk
  clear hx hvw hm
  have HLK : Hid _ := hlk
  clear hlk
  have hlk0 : ∀ k, (Instr.lookup 78 (.map (some bb)) (.int .u64 n) false).run Tryz.prog ((W.alloc (.cells #[.bool va, .bool vb, .bool vc, .bool vd] 119)).drewN k) = .ok (.agg #[.int .i64 xv, .int .i64 xjv, .int .u64 xjb, .int .u64 x0, .int .u64 x1, .int .u64 x2, .int .u64 x3, .string xc]) _ := fun k => HLK.out _ rfl
  have d2 : ∀ k, ((W.alloc (.cells #[.bool va, .bool vb, .bool vc, .bool vd] 119)).drewN k).cell? ⟨p, 2, none⟩ = some (.int .i64 m.view) := fun k => (World.cell?_of_block (Below.heap_alloc W _ p hpl)).trans c2
  have d5 : ∀ k, ((W.alloc (.cells #[.bool va, .bool vb, .bool vc, .bool vd] 119)).drewN k).cell? ⟨p, 5, none⟩ = some (.int .i64 m.high.view) := fun k => (World.cell?_of_block (Below.heap_alloc W _ p hpl)).trans c5
  have hfd := fld_view
  go_enter Tryz.func93, Tryz.ntmps93
  go_wp2
  go_quiet ((go_at_call 94; refine Calls.quiet_of_same (pisOld _ p m xv (d2 _) (d5 _) v0 v1)))
  go_wp2
  go_ret
  have hg := World.grownBy_alloc W (.cells #[.bool va, .bool vb, .bool vc, .bool vd] 119) none
  exact ⟨rfl, hg.os, hg.tape, hg.output, hg.size, hg.block⟩
/-- What the maps' keys are: a number of the language. -/
theorem nat_of_wf {x : Int} (h : (Lit.int .u64 x).wf = true) : ∃ n : Nat, x = n ∧ n < 18446744073709551616 := by
  have h1 : IntKind.u64.min = 0 := rfl
  have h2 : IntKind.u64.max = 18446744073709551615 := rfl
  simp only [Lit.wf, h1, h2, Bool.and_eq_true, decide_eq_true_eq] at h
  exact ⟨x.toNat, by omega, by omega⟩
set_option maxHeartbeats 1000000 in
theorem pforget (w : World) (p : Nat) (S : Nat → Prop) (m : Mem) (h : PMem w p S m) (v0 : 0 ≤ m.view) (v1 : m.view ≤ 1000) :
    Calls Tryz.prog 73 #[.pointer (some ⟨p, 0, none⟩)] w fun e w' => e = .returned (.tuple #[]) ∧ PMem w' p S m ∧ Fr S w w' := by
  obtain ⟨vq, vl, bb, bv, bw, h1, h2⟩ := h.ex
  have ht := h.tab
  have ht0 := h.t0
  obtain ⟨nb, hnb, mb⟩ := h2.mb
  obtain ⟨nv, fv, hnv, mv, ov⟩ := h2.mv
  obtain ⟨nw, fw, hnw, mw, ow⟩ := h2.mw
  have hne := h2.ne h1.box
  have hpl := lt_at h1.box
  have HBX : Hid (∀ W : World, W.heap[p]? = w.heap[p]? → W.heap[w.heap.size]? = some (.cells #[.pointer (some ⟨p, 0, none⟩)] 47 (0, 0)) → W.cell? ⟨w.heap.size, 0, none⟩ = some (.pointer (some ⟨p, 0, none⟩)) ∧ W.cell? ⟨p, 2, none⟩ = some (.int .i64 m.view) ∧ W.cell? ⟨p, 5, none⟩ = some (.int .i64 m.high.view) ∧ W.cell? ⟨p, 19, none⟩ = some (.map (some bb)) ∧ W.cell? ⟨p, 20, none⟩ = some (.map (some bv)) ∧ W.cell? ⟨p, 21, none⟩ = some (.map (some bw)) ∧ w.heap.size < W.heap.size ∧ p < W.heap.size) := fun W hp hb => by
    have hp' := hp.trans h1.box
    exact ⟨cell_at hb 0, cell_at hp' 2, cell_at hp' 5, cell_at hp' 19, cell_at hp' 20, cell_at hp' 21, lt_at hb, lt_at hp'⟩
  obtain ⟨w1, hw1⟩ : ∃ x, x = w.alloc (.cells #[.pointer (some ⟨p, 0, none⟩)] 47) := ⟨_, rfl⟩
  have hb1 : Below w.heap.size w w1 := by rw [hw1]; exact below_alloc _ _
  have p1 : w1.heap[p]? = w.heap[p]? := hb1.block p hpl
  have x1 : w1.heap[w.heap.size]? = some (.cells #[.pointer (some ⟨p, 0, none⟩)] 47 (0, 0)) := by rw [hw1]; exact heap_alloc_new _ _
  have hs1 : w.heap.size < w1.heap.size := lt_at x1
  have HD1 : Hid (Calls Tryz.prog 90 #[.map (some bw), .func (.func 91) #[] #[.pointer (some ⟨w.heap.size, 0, none⟩)]] w1 fun e w' =>
      e = .returned (.tuple #[]) ∧ IMap Tryz.prog 3 .i64 isRec w' bw nw (fun x => if decide (x < m.view) then none else fw x) ∧ w1.grownBy w' (some bw)) := by
    refine pdelViews w.heap.size bw nw fw (fun x => decide (x < m.view)) w1 (mw.below hb1) (fun W x v hg _ => ?_)
    have hh := HBX.out W ((hg.block p (by have := hb1.size; omega) (fun e => hne.2.2 (by cases e; rfl))).trans p1) ((hg.block _ hs1 (fun e => by cases e; have := mw.lt; omega)).trans x1)
    exact pforget1 W w.heap.size p x m.view v hh.1 hh.2.1 hh.2.2.2.2.2.2.1 hh.2.2.2.2.2.2.2
  have HD2 : Hid (∀ w2, w1.grownBy w2 (some bw) → Calls Tryz.prog 92 #[.map (some bv), .func (.func 93) #[] #[.pointer (some ⟨w.heap.size, 0, none⟩)]] w2 fun e w' =>
      e = .returned (.tuple #[]) ∧ IMap Tryz.prog 36 .u64 isRoll w' bv nv (fun x => if m.old (m.vw x.toNat) then none else fv x) ∧ w2.grownBy w' (some bv)) := fun w2 hg2 => by
    have l1 := hb1.size
    have lb := mb.lt
    have lv := mv.lt
    have lw := mw.lt
    refine pdelVotes w.heap.size bv nv fv (fun x => m.old (m.vw x.toNat)) w2 (mv.same ((hg2.block bv (by omega) (fun e => h2.n3 (by cases e; rfl))).trans (hb1.block bv lv))) (fun W x v hg hwf => ?_)
    have l2 := hg2.size
    have hh := HBX.out W (((hg.block p (by omega) (fun e => hne.2.1 (by cases e; rfl))).trans (hg2.block p (by omega) (fun e => hne.2.2 (by cases e; rfl)))).trans p1) (((hg.block _ (by omega) (fun e => by cases e; omega)).trans (hg2.block _ hs1 (fun e => by cases e; omega))).trans x1)
    obtain ⟨n, rfl, hn⟩ := nat_of_wf hwf
    have := pforget2 W w.heap.size p bb nb m n hn v hh.1 hh.2.1 hh.2.2.1 hh.2.2.2.1 hh.2.2.2.2.2.2.1 hh.2.2.2.2.2.2.2 v0 v1 (mb.same (((hg.block bb (by omega) (fun e => h2.n1 (by cases e; rfl))).trans (hg2.block bb (by omega) (fun e => h2.n2 (by cases e; rfl)))).trans (hb1.block bb lb)))
    simpa using this
  have hh1 := HBX.out w1 p1 x1
  have d0 := hh1.1
  have d21 := hh1.2.2.2.2.2.1
  have HP1 : Hid (w1.heap[p]? = w.heap[p]? ∧ w1.heap[w.heap.size]? = some (.cells #[.pointer (some ⟨p, 0, none⟩)] 47 (0, 0))) := ⟨p1, x1⟩
  have H1 : Hid (Bun w p 82 S (qcells m vq vl bb bv bw) [vq, vl] qE (qX m)) := h1
  have H2 : Hid (PMaps w S bb bv bw m) := h2
  have HB1 : Hid (Below w.heap.size w w1) := hb1
  have HT : Hid (Tab w ∧ ¬ S 0) := ⟨ht, ht0⟩
  have HOK : Hid (VOk m fv ∧ WOk m fw) := ⟨ov, ow⟩
  have HMB : Hid (IMap Tryz.prog 36 .u64 isBlk w bb nb (bmap m)) := mb
  have hmf : ∀ (fn : Fn) (first cap : Array Value) (w : World), (Instr.makeFunc fn first cap).run Tryz.prog w = .ok (.func fn first cap) w := fun _ _ _ _ => rfl
  clear h h1 h2 hb1 ht ht0 ov ow mb mv mw p1 x1 hh1
  go_enter Tryz.func73, Tryz.ntmps73
  go_upto_region 1 with fail
  rw [← hw1]
  clear hw1
  go_wp2_with (first
    | (go_at_call 90; refine HD1.out.mono ?_; rintro e w2 ⟨rfl, mw2, hg2⟩; have hh2 := HBX.out w2 ((hg2.block p (by have := HB1.out.size; omega) (fun e => hne.2.2 (by cases e; rfl))).trans HP1.out.1) ((hg2.block _ hs1 (fun e => by cases e; have := H2.out.lts.2.2; omega)).trans HP1.out.2); have d0' := hh2.1; have d20 := hh2.2.2.2.2.1; clear hh2; have MW2 : Hid (IMap Tryz.prog 3 .i64 isRec w2 bw nw (fun x => if decide (x < m.view) then none else fw x)) := mw2; clear mw2)
    | (go_at_call 92; refine (HD2.out w2 hg2).mono ?_; rintro e w3 ⟨rfl, mv3, hg3⟩))
  go_end0
  have l1 := HB1.out.size
  have l2 := hg2.size
  have ll := H2.out.lts
  have hF : Fr S w w3 := ((Fr.of_below (S := S) HB1.out).trans (Fr.grown (S := S) hg2 (fun k hk => by cases hk; exact H2.out.sw)) (fun _ h => .inl h)).trans (Fr.grown (S := S) hg3 (fun k hk => by cases hk; exact H2.out.sv)) (fun _ h => .inl h)
  have hk : ∀ k, k < w.heap.size → k ≠ bv → k ≠ bw → w3.heap[k]? = w.heap[k]? := fun k hk h1 h2 => ((hg3.block k (by omega) (fun e => h1 (by cases e; rfl))).trans (hg2.block k (by omega) (fun e => h2 (by cases e; rfl)))).trans (HB1.out.block k hk)
  have hbox : w3.heap[p]? = w.heap[p]? := hk p hpl (fun e => hne.2.1 e.symm) (fun e => hne.2.2 e.symm)
  refine ⟨rfl, ⟨⟨vq, vl, bb, bv, bw, ?_, ?_⟩, HT.out.1.fr hF HT.out.2, HT.out.2⟩, hF⟩
  · refine ⟨H1.out.sp, hbox.trans H1.out.box, fun i v e x a1 a2 a3 => ?_, H1.out.off, H1.out.apart, H1.out.all, fun k hk => Nat.lt_of_lt_of_le (H1.out.lt k hk) hF.size⟩
    have hr := H1.out.row i v e x a1 a2 a3
    refine ⟨hr.1, ?_⟩
    rcases hr.2 with hn | ⟨g, off, cap, cur, rfl, hS, hg, rest⟩
    · exact .inl hn
    · have := H2.out.ne hg
      exact .inr ⟨g, off, cap, cur, rfl, hS, (hk g (lt_at hg) (fun e => this.2.1 e.symm) (fun e => this.2.2 e.symm)).trans hg, rest⟩
  · refine ⟨H2.out.sb, H2.out.sv, H2.out.sw, H2.out.n1, H2.out.n2, H2.out.n3, ⟨nb, hnb, HMB.out.same (hk bb ll.1 H2.out.n1 H2.out.n2)⟩, ⟨nv, _, hnv, mv3, ⟨fun n hn => ?_, fun n hn => ⟨by simp only [(HOK.out.1.un n hn).1]; split <;> rfl, (HOK.out.1.un n hn).2⟩⟩⟩, ⟨nw, _, hnw, MW2.out.same (hg3.block bw (by omega) (fun e => H2.out.n3 (by cases e; rfl))), ⟨fun v hv => ?_⟩⟩⟩
    · simp only [Int.toNat_natCast, hn]
      exact HOK.out.1.ok n hn
    · have : decide (v < m.view) = false := by simp; omega
      simp only [this]
      exact HOK.out.2.ok v hv
end Go.Proofs.YtkehpnobidendaaGreatDoor


namespace Go.Proofs.YtkehpnobidendaaGreatDoor
open Go.RowKit Go.Maps

set_option maxHeartbeats 400000 in
theorem penter (w : World) (p : Nat) (S : Nat → Prop) (m : Mem) (h : PMem w p S m) (v : Int) (v0 : 0 ≤ v) (v1 : v ≤ 1000) (hv : m.view ≤ v) :
    Calls Tryz.prog 57 #[.pointer (some ⟨p, 0, none⟩), .int .i64 v] w fun e w' => e = .returned (.tuple #[]) ∧ PMem w' p S (m.enter v) ∧ Fr S w w' := by
  have hs := h.see
  have c2 := hs.c2
  have c3 := hs.c3
  have fz := hs.fz
  have k1 := h.set { m with view := v } 2 (.int .i64 v) (fun _ _ _ _ _ => rfl) rfl rfl rfl rfl rfl hv (Int.le_refl _)
  have k2 := k1.set (m.enter v) 3 (.int .i64 0) (fun _ _ _ _ _ => rfl) rfl rfl rfl rfl rfl (Int.le_refl _) (Int.le_refl _)
  have HF : Hid (Fr S w ((w.setCell ⟨p, 2, none⟩ (.int .i64 v)).setCell ⟨p, 3, none⟩ (.int .i64 0))) := (Fr.setCell w h.sp _).trans (Fr.setCell _ h.sp _) (fun _ h => .inl h)
  have HK : Hid (PMem ((w.setCell ⟨p, 2, none⟩ (.int .i64 v)).setCell ⟨p, 3, none⟩ (.int .i64 0)) p S (m.enter v)) := k2
  clear h hs k1 k2
  go_enter Tryz.func57, Tryz.ntmps57
  go_wp2_with (go_at_call 73; refine (pforget _ p S (m.enter v) HK.out v0 v1).mono ?_; rintro e w1 ⟨rfl, hm1, hf1⟩)
  go_end0
  exact ⟨rfl, hm1, HF.out.trans hf1 (fun _ h => .inl h)⟩
theorem pleader (w : World) (v : Int) (v0 : 0 ≤ v) :
    Calls Tryz.prog 74 #[.int .i64 v] w fun e w' => e = .returned (.int .i64 (v % 4)) ∧ w' = w := by
  have e : v.tmod 4 = v % 4 := Int.tmod_eq_emod_of_nonneg v0
  go_enter Tryz.func74, Tryz.ntmps74
  go_wp2
  go_ret
  exact ⟨rfl, rfl⟩
theorem ix0 (a b c d : Bool) (w : World) : (Instr.index 119 (.agg #[.bool a, .bool b, .bool c, .bool d]) (.int .i64 0)).run Tryz.prog w = .ok (.bool a) w := by kernel_rfl
theorem ix1 (a b c d : Bool) (w : World) : (Instr.index 119 (.agg #[.bool a, .bool b, .bool c, .bool d]) (.int .i64 1)).run Tryz.prog w = .ok (.bool b) w := by kernel_rfl
theorem ix2 (a b c d : Bool) (w : World) : (Instr.index 119 (.agg #[.bool a, .bool b, .bool c, .bool d]) (.int .i64 2)).run Tryz.prog w = .ok (.bool c) w := by kernel_rfl
theorem ix3 (a b c d : Bool) (w : World) : (Instr.index 119 (.agg #[.bool a, .bool b, .bool c, .bool d]) (.int .i64 3)).run Tryz.prog w = .ok (.bool d) w := by kernel_rfl
/-- How many of a roll are there. -/
def Rl.cnt (r : Rl) : Nat := r.a.toNat + r.b.toNat + r.c.toNat + r.d.toNat
set_option maxRecDepth 100000 in
set_option maxHeartbeats 4000000 in
theorem pfull (w : World) (r : Rl) :
    Calls Tryz.prog 75 #[rollV r] w fun e w' => e = .returned (.bool (decide (3 ≤ r.cnt))) ∧ Below w.heap.size w w' := by
  obtain ⟨ra, rb, rc, rd⟩ := r
  dsimp only [rollV]
  have i0 := ix0
  have i1 := ix1
  have i2 := ix2
  have i3 := ix3
  cases ra <;> cases rb <;> cases rc <;> cases rd <;> (
    go_enter Tryz.func75, Tryz.ntmps75
    go_wp2
    refine wp_loop_rounds 5 ?_
    rw [rounds_succ]; go_wp2
    rw [rounds_succ]; go_wp2
    rw [rounds_succ]; go_wp2
    rw [rounds_succ]; go_wp2
    rw [rounds_succ]; go_wp2
    go_ret
    exact ⟨rfl, below_alloc _ _⟩)
end Go.Proofs.YtkehpnobidendaaGreatDoor

namespace Go.Proofs.YtkehpnobidendaaGreatDoor
open Go.RowKit Go.Maps

theorem put_ltr (a : Addr) (v : Value) : storeVar 67 a v = rowPut 67 a v := rfl
theorem ltr_size20 : (Tryz.prog.info? 67).map (·.size) = some 20 := by kernel_rfl
attribute [local go_sem ↓] put_ltr
theorem below_setCells {n : Nat} {w : World} {B : Nat} (hB : n ≤ B) : ∀ (vs : List Value) (o : Nat) (w' : World), Below n w w' → Below n w (w'.setCells B o vs)
  | [], _, _, h => h
  | v :: r, o, _, h => below_setCells hB r (o + 1) _ (h.setCell (p := ⟨B, o, none⟩) hB v)
/-- A result that lies in a variable of its own, by its load. -/
theorem results_load {fn : Func} {a : Tmp} {t : TypeId} (h : fn.results = #[.cell a t]) {tmps : Array Value} {P : Program} {w : World} {ad : Addr} {v : Value} (ha : tmps.getD a undef = .pointer (some ad)) (hl : (loadVar t ad).run P w = .ok v w) :
    (results fn tmps).run P w = .ok v w := by
  rw [Array.getD_eq_getD_getElem?] at ha
  simp [results, h, ha, asAddr, hl]
/-- A world in which a letter is being made, in block B. -/
structure LHeld (w : World) (w' : World) : Prop where
  below : Below w.heap.size w w'
  there : w'.there w.heap.size 0 20
  lt : w.heap.size < w'.heap.size
  tab : Tab w
theorem LHeld.next {w w1 w2 : World} (h : LHeld w w1) (hb : Below w1.heap.size w1 w2) : LHeld w w2 :=
  ⟨bnext h.below hb, fun j hj => by
    have := h.there j hj
    rw [hb.cell (p := ⟨w.heap.size, 0 + j, none⟩) h.lt, World.frozen?_of_block (hb.block w.heap.size h.lt)]
    exact this, Nat.lt_of_lt_of_le h.lt hb.size, h.tab⟩
theorem LHeld.drew {w w1 : World} (h : LHeld w w1) : LHeld w w1.drew := ⟨h.below.drew, h.there, h.lt, h.tab⟩
theorem LHeld.put {w w1 : World} (h : LHeld w w1) (vs : List Value) : LHeld w (w1.setCells w.heap.size 0 vs) := by
  have hb := below_setCells (Nat.le_refl w.heap.size) vs 0 w1 h.below
  have hs : (w1.setCells w.heap.size 0 vs).heap.size = w1.heap.size := by
    have : ∀ (vs : List Value) (o : Nat) (w1 : World), (w1.setCells w.heap.size o vs).heap.size = w1.heap.size := by
      intro vs
      induction vs with
      | nil => intro o w1; rfl
      | cons v r ih => intro o w1; exact (ih _ _).trans (World.size_setCell _ _ _)
    exact this vs 0 w1
  exact ⟨hb, World.there_setCells h.there _ _ _, by rw [hs]; exact h.lt, h.tab⟩
theorem LHeld.start {w : World} (h : Tab w) (cs : Array Value) (hc : cs.size = 20) (T : TypeId) : LHeld w (w.alloc (.cells cs T)) := by
  have hn := heap_alloc_new w (.cells cs T)
  refine ⟨below_alloc _ _, fun j hj => ?_, lt_at hn, h⟩
  refine ⟨?_, free_at hn _⟩
  rw [cell_at hn]
  simp; omega

set_option maxRecDepth 100000 in
set_option maxHeartbeats 2000000 in
theorem penterLetter (w : World) (p : Nat) (S : Nat → Prop) (m : Mem) (h : PMem w p S m) (i0 : 0 ≤ m.id) (i1 : m.id ≤ 3) (v0 : 0 ≤ m.view) (v1 : m.view ≤ 1000) :
    Calls Tryz.prog 58 #[.pointer (some ⟨p, 0, none⟩)] w fun e w' => e = .returned (.agg m.enterLtr.cells.toArray) ∧ Below w.heap.size w w' := by
  have hs := h.see
  have lt := hs.lt
  have HT : Hid (Tab w) := h.tab
  have hsl := seal_range m.id 3 m.view 0
  have HS : Hid (∀ w', LHeld w w' → LHeld w w' ∧ w'.cell? ⟨p, 0, none⟩ = some (.int .i64 m.id) ∧ w'.cell? ⟨p, 2, none⟩ = some (.int .i64 m.view) ∧ w'.cell? ⟨p, 5, none⟩ = some (.int .i64 m.high.view) ∧ w'.cell? ⟨p, 6, none⟩ = some (.int .u64 m.high.block) ∧ w'.cell? ⟨p, 7, none⟩ = some (.int .u64 m.high.s0) ∧ w'.cell? ⟨p, 8, none⟩ = some (.int .u64 m.high.s1) ∧ w'.cell? ⟨p, 9, none⟩ = some (.int .u64 m.high.s2) ∧ w'.cell? ⟨p, 10, none⟩ = some (.int .u64 m.high.s3) ∧
      (rowPut 67 ⟨w.heap.size, 0, none⟩ (.agg m.enterLtr.cells.toArray)).run Tryz.prog w' = .ok () (w'.setCells w.heap.size 0 m.enterLtr.cells)) := fun w' hw' => by
    have hb := hw'.below
    have k : ∀ i, w'.cell? ⟨p, i, none⟩ = w.cell? ⟨p, i, none⟩ := fun i => hb.cell (p := ⟨p, i, none⟩) lt
    refine ⟨hw', (k _).trans hs.c0, (k _).trans hs.c2, (k _).trans hs.c5, (k _).trans hs.c6, (k _).trans hs.c7, (k _).trans hs.c8, (k _).trans hs.c9, (k _).trans hs.c10, ?_⟩
    exact rowPut_mid w' w.heap.size 0 67 m.enterLtr.cells.toArray hw'.there ltr_size20 (by simp [Mem.enterLtr, Ltr.cells, Msg.cells, Value.oneCell'])
  have HL : Hid (∀ w', LHeld w w' → (loadVar 67 ⟨w.heap.size, 0, none⟩).run Tryz.prog (w'.setCells w.heap.size 0 m.enterLtr.cells) = .ok (.agg m.enterLtr.cells.toArray) (w'.setCells w.heap.size 0 m.enterLtr.cells)) := fun w' hw' =>
    run_loadVar_mid _ w.heap.size 0 67 m.enterLtr.cells _ (World.rangeAt_setCells_same w' w.heap.size 0 _ hw'.there) Tryz.underlying67 rfl ltr_size20
  clear h hs
  dsimp only [Mem.enterLtr, Ltr.cells, Msg.cells, Msg.zero, Blk.zero, Crt.zero] at HS HL ⊢
  go_enter Tryz.func58, Tryz.ntmps58
  go_wp2
  go_region_held3 (fun w' => LHeld w w' ∧ w'.cell? ⟨p, 0, none⟩ = some (.int .i64 m.id) ∧ w'.cell? ⟨p, 2, none⟩ = some (.int .i64 m.view) ∧ w'.cell? ⟨p, 5, none⟩ = some (.int .i64 m.high.view) ∧ w'.cell? ⟨p, 6, none⟩ = some (.int .u64 m.high.block) ∧ w'.cell? ⟨p, 7, none⟩ = some (.int .u64 m.high.s0) ∧ w'.cell? ⟨p, 8, none⟩ = some (.int .u64 m.high.s1) ∧ w'.cell? ⟨p, 9, none⟩ = some (.int .u64 m.high.s2) ∧ w'.cell? ⟨p, 10, none⟩ = some (.int .u64 m.high.s3) ∧
      (rowPut 67 ⟨w.heap.size, 0, none⟩ (.agg #[.int .i64 (m.view % 4), .int .i64 3, .int .i64 m.id, .int .i64 m.view, .int .i64 0, .int .i64 0, .int .u64 0, .int .u64 0, .int .u64 0, .int .u64 0, .int .u64 0, .string ⟨#[]⟩, .int .u64 0, .int .i64 m.high.view, .int .u64 m.high.block, .int .u64 m.high.s0, .int .u64 m.high.s1, .int .u64 m.high.s2, .int .u64 m.high.s3, .int .u64 (sealOf m.id 3 m.view 0)])).run Tryz.prog w' = .ok () (w'.setCells w.heap.size 0 [.int .i64 (m.view % 4), .int .i64 3, .int .i64 m.id, .int .i64 m.view, .int .i64 0, .int .i64 0, .int .u64 0, .int .u64 0, .int .u64 0, .int .u64 0, .int .u64 0, .string ⟨#[]⟩, .int .u64 0, .int .i64 m.high.view, .int .u64 m.high.block, .int .u64 m.high.s0, .int .u64 m.high.s1, .int .u64 m.high.s2, .int .u64 m.high.s3, .int .u64 (sealOf m.id 3 m.view 0)]))
    (first | (exact HS.out _ ((And.left ‹LHeld w _ ∧ _›).next (by assumption))) | (exact HS.out _ ((And.left ‹LHeld w _ ∧ _›).put _)) | (exact HS.out _ (LHeld.start HT.out _ rfl _).drew) | (exact HS.out _ (And.left ‹LHeld w _ ∧ _›)))
    (first | (go_at_call 74; refine (pleader _ m.view v0).mono ?_; rintro e w3 ⟨rfl, rfl⟩) | (go_at_call 24; refine (pseal m.id 3 m.view 0 (by omega) (by omega) (by omega) (by omega) (by omega) (by omega) (by omega) _ ((And.left ‹LHeld w _ ∧ _›).tab.below (And.left ‹LHeld w _ ∧ _›).below).is).mono ?_; rintro e w3 ⟨rfl, hb3⟩))
  go_wp2
  have hl3 : LHeld w w3 := ((LHeld.start HT.out _ rfl _).drew).next hb3
  exact bodyPost_ret (results_load rfl rfl (HL.out w3 hl3)) rfl ⟨rfl, (hl3.put _).below⟩
/-- What a proposal's letter is. -/
def Mem.propLtr (m : Mem) (b : Blk) : Ltr := ⟨-1, { Msg.zero with kind := 1, fro := m.id, view := m.view, block := b, sl := sealOf m.id 1 m.view b.num }⟩
set_option maxRecDepth 100000 in
set_option maxHeartbeats 2000000 in
theorem ppropLetterAt (w0 w : World) (p b0 : Nat) (m : Mem) (b : Blk) (hbelow : Below w0.heap.size w0 w) (hw : w = w0.alloc (.cells b.cells.toArray 41)) (hb0 : b0 = w0.heap.size) (hs : PSee w p m) (ht : Tab w) (hbx : w.heap[b0]? = some (.cells b.cells.toArray 41 (0, 0))) (i0 : 0 ≤ m.id) (i1 : m.id ≤ 3) (v0 : 0 ≤ m.view) (v1 : m.view ≤ 1000)
    (HN : Hid (∀ W, Tab W → Calls Tryz.prog 26 #[.agg b.cells.toArray] W fun e w' => e = .returned (.int .u64 b.num) ∧ Below W.heap.size W w')) :
    Calls Tryz.prog 63 #[.pointer (some ⟨p, 0, none⟩), .agg b.cells.toArray] w0 fun e w' => e = .returned (.agg (m.propLtr b).cells.toArray) ∧ Below w0.heap.size w0 w' := by
  have lt := hs.lt
  have ltb := lt_at hbx
  have HT : Hid (Tab w) := ht
  have hnl := num_lt b
  obtain ⟨⟨bv, ⟨jv, jb, j0, j1, j2, j3⟩, bc⟩, hbe⟩ : ∃ x, x = b := ⟨_, rfl⟩
  have hnum : b.num = Blk.num ⟨bv, ⟨jv, jb, j0, j1, j2, j3⟩, bc⟩ := by rw [hbe]
  obtain ⟨nb, hnb⟩ : ∃ x, x = b.num := ⟨_, rfl⟩
  rw [← hnb] at hnl HN
  have hpl : m.propLtr b = ⟨-1, { Msg.zero with kind := 1, fro := m.id, view := m.view, block := ⟨bv, ⟨jv, jb, j0, j1, j2, j3⟩, bc⟩, sl := sealOf m.id 1 m.view nb }⟩ := by unfold Mem.propLtr; rw [← hnb, hbe]
  rw [hpl]
  rw [← hbe] at hw hbx HN ⊢
  clear hnum hnb hpl hbe
  have HS : Hid (∀ w', LHeld w w' → LHeld w w' ∧ w'.cell? ⟨p, 0, none⟩ = some (.int .i64 m.id) ∧ w'.cell? ⟨p, 2, none⟩ = some (.int .i64 m.view) ∧ w'.cell? ⟨b0, 0, none⟩ = some (.int .i64 bv) ∧ w'.cell? ⟨b0, 1, none⟩ = some (.int .i64 jv) ∧ w'.cell? ⟨b0, 2, none⟩ = some (.int .u64 jb) ∧ w'.cell? ⟨b0, 3, none⟩ = some (.int .u64 j0) ∧ w'.cell? ⟨b0, 4, none⟩ = some (.int .u64 j1) ∧ w'.cell? ⟨b0, 5, none⟩ = some (.int .u64 j2) ∧ w'.cell? ⟨b0, 6, none⟩ = some (.int .u64 j3) ∧ w'.cell? ⟨b0, 7, none⟩ = some (.string bc) ∧ (rowPut 67 ⟨w.heap.size, 0, none⟩ (.agg #[.int .i64 (-1), .int .i64 1, .int .i64 m.id, .int .i64 m.view, .int .i64 bv, .int .i64 jv, .int .u64 jb, .int .u64 j0, .int .u64 j1, .int .u64 j2, .int .u64 j3, .string bc, .int .u64 0, .int .i64 0, .int .u64 0, .int .u64 0, .int .u64 0, .int .u64 0, .int .u64 0, .int .u64 (sealOf m.id 1 m.view nb)])).run Tryz.prog w' = .ok () (w'.setCells w.heap.size 0 [.int .i64 (-1), .int .i64 1, .int .i64 m.id, .int .i64 m.view, .int .i64 bv, .int .i64 jv, .int .u64 jb, .int .u64 j0, .int .u64 j1, .int .u64 j2, .int .u64 j3, .string bc, .int .u64 0, .int .i64 0, .int .u64 0, .int .u64 0, .int .u64 0, .int .u64 0, .int .u64 0, .int .u64 (sealOf m.id 1 m.view nb)])) := fun w' hw' => by
    have hb := hw'.below
    have k : ∀ i, w'.cell? ⟨p, i, none⟩ = w.cell? ⟨p, i, none⟩ := fun i => hb.cell (p := ⟨p, i, none⟩) lt
    have q : ∀ i, w'.cell? ⟨b0, i, none⟩ = w.cell? ⟨b0, i, none⟩ := fun i => hb.cell (p := ⟨b0, i, none⟩) ltb
    refine ⟨hw', (k _).trans hs.c0, (k _).trans hs.c2, (q _).trans (cell_at hbx 0), (q _).trans (cell_at hbx 1), (q _).trans (cell_at hbx 2), (q _).trans (cell_at hbx 3), (q _).trans (cell_at hbx 4), (q _).trans (cell_at hbx 5), (q _).trans (cell_at hbx 6), (q _).trans (cell_at hbx 7), ?_⟩
    exact rowPut_mid w' w.heap.size 0 67 #[.int .i64 (-1), .int .i64 1, .int .i64 m.id, .int .i64 m.view, .int .i64 bv, .int .i64 jv, .int .u64 jb, .int .u64 j0, .int .u64 j1, .int .u64 j2, .int .u64 j3, .string bc, .int .u64 0, .int .i64 0, .int .u64 0, .int .u64 0, .int .u64 0, .int .u64 0, .int .u64 0, .int .u64 (sealOf m.id 1 m.view nb)] hw'.there ltr_size20 (by simp [Value.oneCell'])
  have HL : Hid (∀ w', LHeld w w' → (loadVar 67 ⟨w.heap.size, 0, none⟩).run Tryz.prog (w'.setCells w.heap.size 0 [.int .i64 (-1), .int .i64 1, .int .i64 m.id, .int .i64 m.view, .int .i64 bv, .int .i64 jv, .int .u64 jb, .int .u64 j0, .int .u64 j1, .int .u64 j2, .int .u64 j3, .string bc, .int .u64 0, .int .i64 0, .int .u64 0, .int .u64 0, .int .u64 0, .int .u64 0, .int .u64 0, .int .u64 (sealOf m.id 1 m.view nb)]) = .ok (.agg #[.int .i64 (-1), .int .i64 1, .int .i64 m.id, .int .i64 m.view, .int .i64 bv, .int .i64 jv, .int .u64 jb, .int .u64 j0, .int .u64 j1, .int .u64 j2, .int .u64 j3, .string bc, .int .u64 0, .int .i64 0, .int .u64 0, .int .u64 0, .int .u64 0, .int .u64 0, .int .u64 0, .int .u64 (sealOf m.id 1 m.view nb)]) (w'.setCells w.heap.size 0 [.int .i64 (-1), .int .i64 1, .int .i64 m.id, .int .i64 m.view, .int .i64 bv, .int .i64 jv, .int .u64 jb, .int .u64 j0, .int .u64 j1, .int .u64 j2, .int .u64 j3, .string bc, .int .u64 0, .int .i64 0, .int .u64 0, .int .u64 0, .int .u64 0, .int .u64 0, .int .u64 0, .int .u64 (sealOf m.id 1 m.view nb)])) := fun w' hw' =>
    run_loadVar_mid _ w.heap.size 0 67 [.int .i64 (-1), .int .i64 1, .int .i64 m.id, .int .i64 m.view, .int .i64 bv, .int .i64 jv, .int .u64 jb, .int .u64 j0, .int .u64 j1, .int .u64 j2, .int .u64 j3, .string bc, .int .u64 0, .int .i64 0, .int .u64 0, .int .u64 0, .int .u64 0, .int .u64 0, .int .u64 0, .int .u64 (sealOf m.id 1 m.view nb)] _ (World.rangeAt_setCells_same w' w.heap.size 0 _ hw'.there) Tryz.underlying67 rfl ltr_size20
  have HB0 : Hid (Below w0.heap.size w0 w) := hbelow
  clear hs hbx hbelow ht
  dsimp only [Ltr.cells, Msg.cells, Msg.zero, Blk.zero, Crt.zero, Blk.cells] at hw HN ⊢
  go_enter Tryz.func63, Tryz.ntmps63
  go_wp2
  have hwz : w0.heap.size + 1 = w.heap.size := by rw [hw]; simp
  rw [← hw, hwz, ← hb0]
  clear hw hwz hb0
  go_region_held3 (fun w' => LHeld w w' ∧ w'.cell? ⟨p, 0, none⟩ = some (.int .i64 m.id) ∧ w'.cell? ⟨p, 2, none⟩ = some (.int .i64 m.view) ∧ w'.cell? ⟨b0, 0, none⟩ = some (.int .i64 bv) ∧ w'.cell? ⟨b0, 1, none⟩ = some (.int .i64 jv) ∧ w'.cell? ⟨b0, 2, none⟩ = some (.int .u64 jb) ∧ w'.cell? ⟨b0, 3, none⟩ = some (.int .u64 j0) ∧ w'.cell? ⟨b0, 4, none⟩ = some (.int .u64 j1) ∧ w'.cell? ⟨b0, 5, none⟩ = some (.int .u64 j2) ∧ w'.cell? ⟨b0, 6, none⟩ = some (.int .u64 j3) ∧ w'.cell? ⟨b0, 7, none⟩ = some (.string bc) ∧ (rowPut 67 ⟨w.heap.size, 0, none⟩ (.agg #[.int .i64 (-1), .int .i64 1, .int .i64 m.id, .int .i64 m.view, .int .i64 bv, .int .i64 jv, .int .u64 jb, .int .u64 j0, .int .u64 j1, .int .u64 j2, .int .u64 j3, .string bc, .int .u64 0, .int .i64 0, .int .u64 0, .int .u64 0, .int .u64 0, .int .u64 0, .int .u64 0, .int .u64 (sealOf m.id 1 m.view nb)])).run Tryz.prog w' = .ok () (w'.setCells w.heap.size 0 [.int .i64 (-1), .int .i64 1, .int .i64 m.id, .int .i64 m.view, .int .i64 bv, .int .i64 jv, .int .u64 jb, .int .u64 j0, .int .u64 j1, .int .u64 j2, .int .u64 j3, .string bc, .int .u64 0, .int .i64 0, .int .u64 0, .int .u64 0, .int .u64 0, .int .u64 0, .int .u64 0, .int .u64 (sealOf m.id 1 m.view nb)]))
    (first | (exact HS.out _ ((And.left ‹LHeld w _ ∧ _›).next (by assumption))) | (exact HS.out _ ((And.left ‹LHeld w _ ∧ _›).put _)) | (exact HS.out _ (LHeld.start HT.out _ rfl _).drew) | (exact HS.out _ (And.left ‹LHeld w _ ∧ _›)))
    (first | (go_at_call 26; refine (HN.out _ ((And.left ‹LHeld w _ ∧ _›).tab.below (And.left ‹LHeld w _ ∧ _›).below)).mono ?_; rintro e w2 ⟨rfl, hb2⟩) | (go_at_call 24; refine (pseal m.id 1 m.view nb (by omega) (by omega) (by omega) (by omega) (by omega) (by omega) (by omega) _ ((And.left ‹LHeld w _ ∧ _›).tab.below (And.left ‹LHeld w _ ∧ _›).below).is).mono ?_; rintro e w3 ⟨rfl, hb3⟩))
  go_wp2
  have hl3 : LHeld w w3 := (((LHeld.start HT.out _ rfl _).drew).next hb2).next hb3
  exact bodyPost_ret (results_load rfl rfl (HL.out w3 hl3)) rfl ⟨rfl, HB0.out.trans ((hl3.put _).below.mono HB0.out.size)⟩
theorem pnum (b : Blk) (hok : b.Ok) (hc : b.cmd.size ≤ 140737488351232) (W : World) (ht : Tab W) : Calls Tryz.prog 26 #[.agg b.cells.toArray] W fun e w' => e = .returned (.int .u64 b.num) ∧ Below W.heap.size W w' := by
  obtain ⟨bv, ⟨jv, jb, j0, j1, j2, j3⟩, bc⟩ := b
  rw [num_cast]
  exact pnumber bv jv jb _ _ _ _ bc hok.v0 hok.v1 hok.j.b1 hc W ht.is
theorem ppropLetter (w : World) (p : Nat) (S : Nat → Prop) (m : Mem) (h : PMem w p S m) (b : Blk) (hok : b.Ok) (hc : b.cmd.size ≤ 140737488351232) (i0 : 0 ≤ m.id) (i1 : m.id ≤ 3) (v0 : 0 ≤ m.view) (v1 : m.view ≤ 1000) :
    Calls Tryz.prog 63 #[.pointer (some ⟨p, 0, none⟩), .agg b.cells.toArray] w fun e w' => e = .returned (.agg (m.propLtr b).cells.toArray) ∧ Below w.heap.size w w' :=
  ppropLetterAt w _ p w.heap.size m b (below_alloc _ _) rfl rfl (h.alloc _).see (h.alloc _).tab (heap_alloc_new _ _) i0 i1 v0 v1 (fun W ht => pnum b hok hc W ht)
/-- What a vote's letter is. -/
def Mem.voteLtr (m : Mem) (v : Int) (n : Nat) : Ltr := ⟨(v + 1) % 4, { Msg.zero with kind := 2, fro := m.id, view := v, number := n, sl := sealOf m.id 2 v n }⟩
set_option maxRecDepth 100000 in
set_option maxHeartbeats 2000000 in
theorem pvoteLetter (w : World) (p : Nat) (S : Nat → Prop) (m : Mem) (h : PMem w p S m) (v : Int) (n : Nat) (hn : n < 18446744073709551616) (i0 : 0 ≤ m.id) (i1 : m.id ≤ 3) (v0 : 0 ≤ v) (v1 : v ≤ 1000) :
    Calls Tryz.prog 98 #[.pointer (some ⟨p, 0, none⟩), .int .i64 v, .int .u64 n] w fun e w' => e = .returned (.agg (m.voteLtr v n).cells.toArray) ∧ Below w.heap.size w w' := by
  have hs := h.see
  have lt := hs.lt
  have HT : Hid (Tab w) := h.tab
  have hvw : IntKind.i64.wrap (v + 1) = v + 1 := by rw [IntKind.wrap_i64]; omega
  have HS : Hid (∀ w', LHeld w w' → LHeld w w' ∧ w'.cell? ⟨p, 0, none⟩ = some (.int .i64 m.id) ∧ (rowPut 67 ⟨w.heap.size, 0, none⟩ (.agg #[.int .i64 ((v + 1) % 4), .int .i64 2, .int .i64 m.id, .int .i64 v, .int .i64 0, .int .i64 0, .int .u64 0, .int .u64 0, .int .u64 0, .int .u64 0, .int .u64 0, .string ⟨#[]⟩, .int .u64 n, .int .i64 0, .int .u64 0, .int .u64 0, .int .u64 0, .int .u64 0, .int .u64 0, .int .u64 (sealOf m.id 2 v n)])).run Tryz.prog w' = .ok () (w'.setCells w.heap.size 0 [.int .i64 ((v + 1) % 4), .int .i64 2, .int .i64 m.id, .int .i64 v, .int .i64 0, .int .i64 0, .int .u64 0, .int .u64 0, .int .u64 0, .int .u64 0, .int .u64 0, .string ⟨#[]⟩, .int .u64 n, .int .i64 0, .int .u64 0, .int .u64 0, .int .u64 0, .int .u64 0, .int .u64 0, .int .u64 (sealOf m.id 2 v n)])) := fun w' hw' => by
    have hb := hw'.below
    have k : ∀ i, w'.cell? ⟨p, i, none⟩ = w.cell? ⟨p, i, none⟩ := fun i => hb.cell (p := ⟨p, i, none⟩) lt
    refine ⟨hw', (k _).trans hs.c0, ?_⟩
    exact rowPut_mid w' w.heap.size 0 67 #[.int .i64 ((v + 1) % 4), .int .i64 2, .int .i64 m.id, .int .i64 v, .int .i64 0, .int .i64 0, .int .u64 0, .int .u64 0, .int .u64 0, .int .u64 0, .int .u64 0, .string ⟨#[]⟩, .int .u64 n, .int .i64 0, .int .u64 0, .int .u64 0, .int .u64 0, .int .u64 0, .int .u64 0, .int .u64 (sealOf m.id 2 v n)] hw'.there ltr_size20 (by simp [Value.oneCell'])
  have HL : Hid (∀ w', LHeld w w' → (loadVar 67 ⟨w.heap.size, 0, none⟩).run Tryz.prog (w'.setCells w.heap.size 0 [.int .i64 ((v + 1) % 4), .int .i64 2, .int .i64 m.id, .int .i64 v, .int .i64 0, .int .i64 0, .int .u64 0, .int .u64 0, .int .u64 0, .int .u64 0, .int .u64 0, .string ⟨#[]⟩, .int .u64 n, .int .i64 0, .int .u64 0, .int .u64 0, .int .u64 0, .int .u64 0, .int .u64 0, .int .u64 (sealOf m.id 2 v n)]) = .ok (.agg #[.int .i64 ((v + 1) % 4), .int .i64 2, .int .i64 m.id, .int .i64 v, .int .i64 0, .int .i64 0, .int .u64 0, .int .u64 0, .int .u64 0, .int .u64 0, .int .u64 0, .string ⟨#[]⟩, .int .u64 n, .int .i64 0, .int .u64 0, .int .u64 0, .int .u64 0, .int .u64 0, .int .u64 0, .int .u64 (sealOf m.id 2 v n)]) (w'.setCells w.heap.size 0 [.int .i64 ((v + 1) % 4), .int .i64 2, .int .i64 m.id, .int .i64 v, .int .i64 0, .int .i64 0, .int .u64 0, .int .u64 0, .int .u64 0, .int .u64 0, .int .u64 0, .string ⟨#[]⟩, .int .u64 n, .int .i64 0, .int .u64 0, .int .u64 0, .int .u64 0, .int .u64 0, .int .u64 0, .int .u64 (sealOf m.id 2 v n)])) := fun w' hw' =>
    run_loadVar_mid _ w.heap.size 0 67 [.int .i64 ((v + 1) % 4), .int .i64 2, .int .i64 m.id, .int .i64 v, .int .i64 0, .int .i64 0, .int .u64 0, .int .u64 0, .int .u64 0, .int .u64 0, .int .u64 0, .string ⟨#[]⟩, .int .u64 n, .int .i64 0, .int .u64 0, .int .u64 0, .int .u64 0, .int .u64 0, .int .u64 0, .int .u64 (sealOf m.id 2 v n)] _ (World.rangeAt_setCells_same w' w.heap.size 0 _ hw'.there) Tryz.underlying67 rfl ltr_size20
  clear h hs
  dsimp only [Mem.voteLtr, Ltr.cells, Msg.cells, Msg.zero, Blk.zero, Crt.zero]
  go_enter Tryz.func98, Tryz.ntmps98
  go_wp2
  go_region_held3 (fun w' => LHeld w w' ∧ w'.cell? ⟨p, 0, none⟩ = some (.int .i64 m.id) ∧ (rowPut 67 ⟨w.heap.size, 0, none⟩ (.agg #[.int .i64 ((v + 1) % 4), .int .i64 2, .int .i64 m.id, .int .i64 v, .int .i64 0, .int .i64 0, .int .u64 0, .int .u64 0, .int .u64 0, .int .u64 0, .int .u64 0, .string ⟨#[]⟩, .int .u64 n, .int .i64 0, .int .u64 0, .int .u64 0, .int .u64 0, .int .u64 0, .int .u64 0, .int .u64 (sealOf m.id 2 v n)])).run Tryz.prog w' = .ok () (w'.setCells w.heap.size 0 [.int .i64 ((v + 1) % 4), .int .i64 2, .int .i64 m.id, .int .i64 v, .int .i64 0, .int .i64 0, .int .u64 0, .int .u64 0, .int .u64 0, .int .u64 0, .int .u64 0, .string ⟨#[]⟩, .int .u64 n, .int .i64 0, .int .u64 0, .int .u64 0, .int .u64 0, .int .u64 0, .int .u64 0, .int .u64 (sealOf m.id 2 v n)]))
    (first | (exact HS.out _ ((And.left ‹LHeld w _ ∧ _›).next (by assumption))) | (exact HS.out _ ((And.left ‹LHeld w _ ∧ _›).put _)) | (exact HS.out _ (LHeld.start HT.out _ rfl _).drew) | (exact HS.out _ (And.left ‹LHeld w _ ∧ _›)))
    (first | (go_at_call 74; refine (pleader _ (v + 1) (by omega)).mono ?_; rintro e w3 ⟨rfl, rfl⟩) | (go_at_call 24; refine (pseal m.id 2 v n (by omega) (by omega) (by omega) (by omega) (by omega) (by omega) hn _ ((And.left ‹LHeld w _ ∧ _›).tab.below (And.left ‹LHeld w _ ∧ _›).below).is).mono ?_; rintro e w3 ⟨rfl, hb3⟩))
  go_wp2
  have hl3 : LHeld w w3 := ((LHeld.start HT.out _ rfl _).drew).next hb3
  exact bodyPost_ret (results_load rfl rfl (HL.out w3 hl3)) rfl ⟨rfl, (hl3.put _).below⟩
end Go.Proofs.YtkehpnobidendaaGreatDoor

namespace Go.Proofs.YtkehpnobidendaaGreatDoor
open Go.RowKit Go.Maps

/-- What it keeps, behind a store into one of its maps. -/
theorem PMem.stored {w w1 : World} {p : Nat} {S : Nat → Prop} {m m' : Mem} {vq vl : Value} {bb bv bw k : Nat} (h : Bun w p 82 S (qcells m vq vl bb bv bw) [vq, vl] qE (qX m)) (hm : PMaps w S bb bv bw m) (hk : k = bb ∨ k = bv ∨ k = bw) (ht : Tab w) (h0 : ¬ S 0) (hf : Fr (fun j => j = k) w w1)
    (hc : qcells m vq vl bb bv bw = qcells m' vq vl bb bv bw) (hx : qX m = qX m') (hm' : PMaps w1 S bb bv bw m') : PMem w1 p S m' := by
  have hne : ∀ {j : Nat} {C : Array Value} {T : TypeId} {fz : Nat × Nat}, w.heap[j]? = some (.cells C T fz) → j ≠ k := fun hj e => by
    have := hm.ne hj
    rcases hk with rfl | rfl | rfl
    · exact this.1 e.symm
    · exact this.2.1 e.symm
    · exact this.2.2 e.symm
  have hS : S k := by rcases hk with rfl | rfl | rfl; exact hm.sb; exact hm.sv; exact hm.sw
  refine ⟨⟨vq, vl, bb, bv, bw, ?_, hm'⟩, ht.same (hf.block 0 ht.pos (fun e => h0 (by rw [e]; exact hS))), h0⟩
  rw [← hc, ← hx]
  refine ⟨h.sp, (hf.block p (lt_at h.box) (hne h.box)).trans h.box, fun i v e x a1 a2 a3 => ?_, h.off, h.apart, h.all, fun j hj => Nat.lt_of_lt_of_le (h.lt j hj) hf.size⟩
  have hr := h.row i v e x a1 a2 a3
  refine ⟨hr.1, ?_⟩
  rcases hr.2 with hn | ⟨g, off, cap, cur, rfl, hS, hg, rest⟩
  · exact .inl hn
  · exact .inr ⟨g, off, cap, cur, rfl, hS, (hf.block g (lt_at hg) (hne hg)).trans hg, rest⟩
theorem knows_block {m : Mem} {b : Blk} (hn : m.block b.num = none) (n : Nat) : (m.knows b).block n = if n = b.num then some b else m.block n := by
  have e : m.knows b = { m with blocks := m.blocks ++ [(b.num, b)] } := by unfold Mem.knows; rw [hn]; rfl
  rw [e]
  unfold Mem.block at *
  show find n (m.blocks ++ [(b.num, b)]) = _
  rw [find_append]
  by_cases h : n = b.num
  · subst h; rw [hn, if_pos rfl]; simp [find]
  · rw [if_neg h]
    have : find n [(b.num, b)] = none := by simp [find, Ne.symm h]
    rw [this]; simp
/-- The maps, when a block is known more. -/
theorem PMaps.knows {w w1 : World} {S : Nat → Prop} {bb bv bw : Nat} {m : Mem} {b : Blk} (h : PMaps w S bb bv bw m) (hn : m.block b.num = none) (hf : Fr (fun j => j = bb) w w1) {n : Nat} (hnl : n ≤ m.blocks.length) (hi : IMap Tryz.prog 36 .u64 isBlk w1 bb (n + 1) (putAt (bmap m) b.num b.val)) : PMaps w1 S bb bv bw (m.knows b) := by
  have e : m.knows b = { m with blocks := m.blocks ++ [(b.num, b)] } := by unfold Mem.knows; rw [hn]; rfl
  have hl := h.lts
  refine ⟨h.sb, h.sv, h.sw, h.n1, h.n2, h.n3, ⟨n + 1, by rw [e]; simp; omega, hi.fun (fun x hx => ?_)⟩, ?_, ?_⟩
  · obtain ⟨k, rfl, _⟩ := nat_of_wf hx
    unfold bmap putAt
    simp only [Int.toNat_natCast]
    rw [knows_block hn]
    by_cases hk : k = b.num
    · subst hk; simp
    · have : ¬ ((k : Int) = (b.num : Int)) := by omega
      rw [if_neg hk, if_neg this]
  · obtain ⟨n2, f, hn2, h2, o⟩ := h.mv
    refine ⟨n2, f, by rw [e]; exact hn2, h2.same (hf.block bv hl.2.1 (fun e => h.n1 e.symm)), ⟨fun k hk => ?_, fun k hk => ?_⟩⟩
    · have hvf : (m.knows b).votesFor k = m.votesFor k := by rw [e]; rfl
      rw [hvf]
      by_cases hkb : k = b.num
      · have := o.un k (by rw [hkb]; exact hn)
        rw [this.1, this.2]; rfl
      · refine o.ok k ?_
        have hvw : (m.knows b).vw k = m.vw k := by unfold Mem.vw; rw [knows_block hn, if_neg hkb]
        rw [hvw, e] at hk
        exact hk
    · have hvf : (m.knows b).votesFor k = m.votesFor k := by rw [e]; rfl
      rw [hvf]
      rw [knows_block hn] at hk
      by_cases hkb : k = b.num
      · rw [if_pos hkb] at hk; cases hk
      · rw [if_neg hkb] at hk; exact o.un k hk
  · obtain ⟨n3, f, hn3, h3, o⟩ := h.mw
    refine ⟨n3, f, by rw [e]; exact hn3, h3.same (hf.block bw hl.2.2 (fun e => h.n2 e.symm)), ⟨fun v hv => ?_⟩⟩
    rw [e] at hv ⊢
    exact o.ok v hv
set_option maxRecDepth 100000 in
set_option maxHeartbeats 2000000 in
theorem pknow (w : World) (p : Nat) (S : Nat → Prop) (m : Mem) (h : PMem w p S m) (b : Blk) (hok : b.Ok) (hbl : m.blocks.length ≤ 1700000000000) :
    Calls Tryz.prog 62 #[.pointer (some ⟨p, 0, none⟩), .agg b.cells.toArray] w fun e w' => e = .returned (.tuple #[]) ∧ PMem w' p S (m.knows b) ∧ Fr S w w' := by
  have hnl := num_lt b
  have HN : Hid (∀ W, Tab W → Calls Tryz.prog 26 #[.agg b.cells.toArray] W fun e w' => e = .returned (.int .u64 b.num) ∧ Below W.heap.size W w') := fun W ht => pnum b hok hok.c1 W ht
  have HP : Hid (PMem w p S m) := h
  obtain ⟨x, hx⟩ : ∃ x, x = (m.block b.num).getD Blk.zero := ⟨_, rfl⟩
  have hx1 : (bmap m (b.num : Int)).getD Blk.zero.val = x.val := by rw [bmap_get, ← hx]
  have hx2 := bmap_some m b.num
  have HKN : Hid ((m.block b.num).isSome = true → m.knows b = m) := fun hs => by unfold Mem.knows; rw [if_pos hs]
  obtain ⟨w1, hw1⟩ : ∃ x, x = w.alloc (.cells b.cells.toArray 41) := ⟨_, rfl⟩
  have hb1 : Below w.heap.size w w1 := by rw [hw1]; exact below_alloc _ _
  have x1 : w1.heap[w.heap.size]? = some (.cells b.cells.toArray 41 (0, 0)) := by rw [hw1]; exact heap_alloc_new _ _
  have HB1 : Hid (Below w.heap.size w w1) := hb1
  have HX1 : Hid (w1.heap[w.heap.size]? = some (.cells b.cells.toArray 41 (0, 0))) := x1
  clear h hx hb1 x1
  have HPK : Hid (∀ (w2 w3 : World) vq vl bb bv bw n, Bun w2 p 82 S (qcells m vq vl bb bv bw) [vq, vl] qE (qX m) → PMaps w2 S bb bv bw m → Tab w2 → ¬ S 0 → (m.block b.num).isSome = false → n ≤ m.blocks.length → IMap Tryz.prog 36 .u64 isBlk w3 bb (n + 1) (putAt (bmap m) b.num b.val) → Fr (fun j => j = bb) w2 w3 → PMem w3 p S (m.knows b)) := fun w2 w3 vq vl bb bv bw n g1 g2 g3 g4 g5 g6 g7 g8 => by
    have hn : m.block b.num = none := by cases hq : m.block b.num with | none => rfl | some _ => rw [hq] at g5; cases g5
    have e : m.knows b = { m with blocks := m.blocks ++ [(b.num, b)] } := by unfold Mem.knows; rw [hn]; rfl
    exact PMem.stored g1 g2 (.inl rfl) g3 g4 g8 (by rw [e]; rfl) (by rw [e]; rfl) (g2.knows hn g8 g6 g7)
  obtain ⟨⟨bv0, ⟨jv, jb, j0, j1, j2, j3⟩, bc⟩, hbe⟩ : ∃ y, y = b := ⟨_, rfl⟩
  obtain ⟨nb, hnb⟩ : ∃ x, x = b.num := ⟨_, rfl⟩
  rw [← hnb] at hnl HN hx1 hx2 HKN HPK
  have HKB := HPK
  generalize m.knows b = mk at *
  rw [← hbe] at HN hw1 HX1 HPK ⊢
  clear HKB hnb hbe hok
  generalize (m.block nb).isSome = kn at *
  obtain ⟨xv, ⟨xjv, xjb, x0, x1, x2, x3⟩, xc⟩ := x
  dsimp only [Blk.cells, Blk.val] at HN hw1 HX1 HPK hx1 ⊢
  go_enter Tryz.func62, Tryz.ntmps62
  go_upto_region 1 with fail
  rw [← hw1]
  clear hw1
  have e0 := cell_at HX1.out 0
  have e1 := cell_at HX1.out 1
  have e2 := cell_at HX1.out 2
  have e3 := cell_at HX1.out 3
  have e4 := cell_at HX1.out 4
  have e5 := cell_at HX1.out 5
  have e6 := cell_at HX1.out 6
  have e7 := cell_at HX1.out 7
  simp at e0 e1 e2 e3 e4 e5 e6 e7
  go_upto_region 2 with (go_at_call 26; refine (HN.out _ (HP.out.below HB1.out).tab).mono ?_; rintro e w2 ⟨rfl, hb2⟩)
  have HP2 : Hid (PMem w2 p S m) := (HP.out.below HB1.out).below hb2
  have HX2 : Hid (w2.heap[w.heap.size]? = some (.cells #[.int .i64 bv0, .int .i64 jv, .int .u64 jb, .int .u64 j0, .int .u64 j1, .int .u64 j2, .int .u64 j3, .string bc] 41 (0, 0))) := (hb2.block _ (lt_at HX1.out)).trans HX1.out
  have HF2 : Hid (Below w.heap.size w w2) := bnext HB1.out hb2
  clear e0 e1 e2 e3 e4 e5 e6 e7 HX1 HB1 hb2 HN HP
  obtain ⟨vq, vl, bb, bv, bw, g1, g2⟩ := HP2.out.ex
  have c19 : w2.cell? ⟨p, 19, none⟩ = some (.map (some bb)) := cell_at g1.box 19
  have lp := lt_at g1.box
  obtain ⟨n, hn, mb⟩ := g2.mb
  have MB : Hid (IMap Tryz.prog 36 .u64 isBlk w2 bb n (bmap m)) := mb
  have G1 : Hid (Bun w2 p 82 S (qcells m vq vl bb bv bw) [vq, vl] qE (qX m)) := g1
  have G2 : Hid (PMaps w2 S bb bv bw m) := g2
  clear g1 g2 mb
  cases kn
  · go_upto_region 4 with (at_lookup; refine wpList_lookB rfl (.tmp 13) (.tmp 14) rfl rfl MB.out Tryz.underlying36 Tryz.underlying78 _ (zero_blk _) ⟨_, rfl⟩ nb rfl (wf_u64 hnl) _ _ hx1 hx2 ?_)
    have hz := (Fr.of_below (S := S) HF2.out).trans (Fr.alloc S w2 (.cells #[.int .i64 xv, .int .i64 xjv, .int .u64 xjb, .int .u64 x0, .int .u64 x1, .int .u64 x2, .int .u64 x3, .string xc] 41)) (fun _ h => .inl h)
    have HG1 : Hid _ := G1.out.alloc (.cells #[.int .i64 xv, .int .i64 xjv, .int .u64 xjb, .int .u64 x0, .int .u64 x1, .int .u64 x2, .int .u64 x3, .string xc] 41)
    have hg2 : PMaps (w2.alloc (.cells #[.int .i64 xv, .int .i64 xjv, .int .u64 xjb, .int .u64 x0, .int .u64 x1, .int .u64 x2, .int .u64 x3, .string xc] 41)) S bb bv bw m := G2.out.same (fun k _ hk => Below.heap_alloc _ _ _ (by have := G2.out.lts; omega)) (fun _ h => h)
    have HG2 : Hid (PMaps (w2.alloc (.cells #[.int .i64 xv, .int .i64 xjv, .int .u64 xjb, .int .u64 x0, .int .u64 x1, .int .u64 x2, .int .u64 x3, .string xc] 41)) S bb bv bw m) := hg2
    have HG3 : Hid (IMap Tryz.prog 36 .u64 isBlk (w2.alloc (.cells #[.int .i64 xv, .int .i64 xjv, .int .u64 xjb, .int .u64 x0, .int .u64 x1, .int .u64 x2, .int .u64 x3, .string xc] 41)) bb n (bmap m)) := MB.out.same (Below.heap_alloc _ _ _ MB.out.lt)
    have HG4 : Hid (Tab (w2.alloc (.cells #[.int .i64 xv, .int .i64 xjv, .int .u64 xjb, .int .u64 x0, .int .u64 x1, .int .u64 x2, .int .u64 x3, .string xc] 41)) ∧ ¬ S 0 ∧ S bb ∧ Fr S w (w2.alloc (.cells #[.int .i64 xv, .int .i64 xjv, .int .u64 xjb, .int .u64 x0, .int .u64 x1, .int .u64 x2, .int .u64 x3, .string xc] 41))) := ⟨(HP2.out.alloc _).tab, HP2.out.t0, G2.out.sb, hz⟩
    have HX3 := (Below.heap_alloc w2 (.cells #[.int .i64 xv, .int .i64 xjv, .int .u64 xjb, .int .u64 x0, .int .u64 x1, .int .u64 x2, .int .u64 x3, .string xc] 41) _ (lt_at HX2.out)).trans HX2.out
    clear hz hg2 G1 G2 MB HF2 HP2 hx1 hx2 HX2 HKN
    generalize w2.alloc (.cells #[.int .i64 xv, .int .i64 xjv, .int .u64 xjb, .int .u64 x0, .int .u64 x1, .int .u64 x2, .int .u64 x3, .string xc] 41) = w3 at *
    have c19 : w3.cell? ⟨p, 19, none⟩ = some (.map (some bb)) := cell_at HG1.out.box 19
    have e0 := cell_at HX3 0
    have e1 := cell_at HX3 1
    have e2 := cell_at HX3 2
    have e3 := cell_at HX3 3
    have e4 := cell_at HX3 4
    have e5 := cell_at HX3 5
    have e6 := cell_at HX3 6
    have e7 := cell_at HX3 7
    simp at e0 e1 e2 e3 e4 e5 e6 e7
    clear HX3
    obtain ⟨w4, hr4, mb4, hf4⟩ := (HG3.out.same (w' := w3.drew) rfl).store Tryz.underlying36 Tryz.underlying78 (by unfold maxLen; omega) nb (wf_u64 hnl) (.agg #[.int .i64 bv0, .int .i64 jv, .int .u64 jb, .int .u64 j0, .int .u64 j1, .int .u64 j2, .int .u64 j3, .string bc]) ⟨⟨bv0, ⟨jv, jb, j0, j1, j2, j3⟩, bc⟩, rfl⟩
    have HF4 : Hid (Fr (fun k => k = bb) w3 w4) := (Fr.drew _ w3).trans hf4 (fun _ h => .inl h)
    have MB4 : Hid _ := mb4
    clear mb4 hf4
    go_region
    all_goals (
      go_end0
      refine ⟨rfl, HPK.out w3 w4 vq vl bb bv bw n HG1.out HG2.out HG4.out.1 HG4.out.2.1 rfl hn MB4.out HF4.out, HG4.out.2.2.2.trans (HF4.out.mono (S' := S) (fun i hi => by rw [hi]; exact HG4.out.2.2.1)) (fun _ h => .inl h)⟩)
  · go_wp2_with (at_lookup; refine wpList_lookB rfl (.tmp 13) (.tmp 14) rfl rfl MB.out Tryz.underlying36 Tryz.underlying78 _ (zero_blk _) ⟨_, rfl⟩ nb rfl (wf_u64 hnl) _ _ hx1 hx2 ?_)
    go_end0
    rw [HKN.out trivial]
    exact ⟨rfl, HP2.out.alloc _, (Fr.of_below (S := S) HF2.out).trans (Fr.alloc S w2 _) (fun _ h => .inl h)⟩
end Go.Proofs.YtkehpnobidendaaGreatDoor

namespace Go.Proofs.YtkehpnobidendaaGreatDoor
open Go.RowKit Go.Maps

/-- What make gives is a row of ours. -/
theorem Row.made {w : World} {base e size n : Nat} {v : Value} {xs : List Value} (h : w.ownsRow base e size v n xs) (hl : xs.length = n * size) : Row w (fun k => base ≤ k) e size v n xs := by
  refine ⟨hl, ?_⟩
  rcases h.2 with h0 | ⟨g, cap, cur, h1, h2, h3, h4, h5, h6, h7⟩
  · exact .inl h0
  · exact .inr ⟨g, 0, cap, cur, h1, h2, h3, h4, h5, by omega, by simpa using h7⟩
theorem below_grown {w w' : World} (h : w.grownBy w' none) : Below w.heap.size w w' := ⟨h.os, h.tape, h.output, h.size, fun k hk => h.block k hk (by simp)⟩
set_option maxRecDepth 100000 in
set_option maxHeartbeats 1000000 in
theorem plog (w : World) (p : Nat) (S : Nat → Prop) (m : Mem) (h : PMem w p S m) (hn : m.log.length ≤ 1700000000000) (hlu : ∀ n ∈ m.log, n < 18446744073709551616) :
    Calls Tryz.prog 33 #[.pointer (some ⟨p, 0, none⟩)] w fun e w' => ∃ v, e = .returned v ∧ Row w' (fun k => w.heap.size ≤ k) 9 1 v m.commands.length (m.commands.flatMap scells) ∧ Below w.heap.size w w' := by
  have hcl : m.commands.length = m.log.length := by simp [Mem.commands]
  obtain ⟨vq, vl, bb, bv, bw, h1, h2⟩ := h.ex
  obtain ⟨nb, hnb, mb⟩ := h2.mb
  have MB : Hid (IMap Tryz.prog 36 .u64 isBlk w bb nb (bmap m)) := mb
  have hr : Row w S 36 1 vl m.log.length (m.log.flatMap ncells) := h1.row 1 _ _ _ rfl rfl rfl
  have c18 : w.cell? ⟨p, 18, none⟩ = some vl := cell_at h1.box 18
  have c19 : w.cell? ⟨p, 19, none⟩ = some (.map (some bb)) := cell_at h1.box 19
  have hp : p < w.heap.size := lt_at h1.box
  clear h h1 h2 mb
  obtain ⟨a, cap, rfl⟩ := hr.isSlice
  have HR : Hid (Row w S 36 1 (.slice a m.log.length cap) m.log.length (m.log.flatMap ncells)) := hr
  clear hr
  obtain ⟨i0, hi, hz0, hz1, hz2⟩ := info_parts info_string
  have hfc := fld_cmd
  go_enter Tryz.func33, Tryz.ntmps33
  go_wp2_with (first
    | (at_make; refine wpList_make_own _ rfl _ _ 30 rfl w.heap.size 9 i0 (.string ⟨#[]⟩) 1 Tryz.underlying30 hi hz0 hz1 .i64 .i64 _ m.log.length rfl rfl rfl (by rw [hz2]; omega) (by unfold maxLen; omega) (Nat.le_refl _) ?_; intro w0 ho0 hg0; have hb0 := below_grown hg0; have d18 := (hb0.cell (p := ⟨p, 18, none⟩) hp).trans c18; have HB0 : Hid (Below w.heap.size w w0) := hb0; have HO0 : Hid (Row w0 (fun k => w.heap.size ≤ k) 9 1 (.slice (some ⟨w.heap.size, 0, none⟩) 0 m.log.length) 0 []) := Row.made ho0 rfl; clear hb0 ho0 hg0)
    | go_in)
  go_loopw [3, 17] (fun v i wr => ∃ k : Nat, k ≤ m.log.length ∧ i = .int .i64 k ∧ Row wr (fun k => w.heap.size ≤ k) 9 1 v k ((m.commands.take k).flatMap scells) ∧ Hid (Below w.heap.size w wr)) (fun _ i _ => m.log.length - (intOf i).toNat)
  case atStart => exact ⟨0, by omega, rfl, HO0.out, HB0⟩
  case round =>
    obtain ⟨k, hk, rfl, hv, hb⟩ := hrel
    have e19 := (hb.out.cell (p := ⟨p, 19, none⟩) hp).trans c19
    by_cases hlt : k < m.log.length
    · obtain ⟨g, off, rfl, hSg, hg, hcap⟩ := HR.out.place (by omega)
      have q : _ = some (Value.int IntKind.u64 (m.log[k] : Nat)) := (hb.out.cell (p := ⟨g, off + k, none⟩) hg).trans (by have := HR.out.elem ncells_len k 0 hlt (by omega); simpa [ncells] using this)
      obtain ⟨a', cap', rfl⟩ := hv.isSlice
      have hnl := hlu m.log[k] (List.getElem_mem _)
      have hx1 := bmap_get m m.log[k]
      obtain ⟨⟨qv, ⟨qjv, qjb, q0, q1, q2, q3⟩, qc⟩, hq⟩ : ∃ x, x = (m.block m.log[k]).getD Blk.zero := ⟨_, rfl⟩
      rw [← hq] at hx1
      dsimp only [Blk.val, Blk.cells] at hx1
      have hQ : (m.commands.take (k + 1)).flatMap scells = (m.commands.take k).flatMap scells ++ [.string qc] := by
        rw [take_flat scells _ k (by omega)]
        simp [Mem.commands, ← hq, scells]
      have HQ : Hid ((m.commands.take (k + 1)).flatMap scells = (m.commands.take k).flatMap scells ++ [.string qc]) := hQ
      clear hQ
      clear hq
      generalize m.log[k] = n at q hx1 hnl
      go_wp2_with (first
        | (at_lookup; refine wpList_lookV rfl (.tmp 25) (.tmp 26) rfl rfl (MB.out.below hb.out) Tryz.underlying36 Tryz.underlying78 _ (zero_blk _) ⟨_, rfl⟩ n rfl (wf_u64 hnl) _ hx1 ?_)
        | (at_builtin; refine wpList_append_row rfl (.tmp 21) (.tmp 29) 30 rfl (fun k => w.heap.size ≤ k) 9 (.string ⟨#[]⟩) 1 16 Tryz.underlying30 info_string rfl (.slice a' k cap') k ((m.commands.take k).flatMap scells) rfl (hv.alloc _) ⟨wr.heap.size, 0, none⟩ 1 1 [.string qc] rfl rfl one_cell (by simp [Value.oneCell']) (by omega) (by unfold maxLen; omega) (by omega) ?_; intro v' w1 hr' hf; obtain ⟨a2, cap2, rfl⟩ := hr'.isSlice; have HR' : Hid _ := hr'; have HF : Hid (Fr _ _ w1) := hf; clear hr' hf))
      go_roundw
      case rel =>
        have hbb := bnext hb.out ((Below.refl _ _).alloc (Nat.le_refl _) (.cells #[.string qc] 9))
        refine ⟨k + 1, by omega, by go_num, ?_, ?_⟩
        · rw [HQ.out]
          refine HR'.out.same (fun j hj _ => ⟨rfl, ?_⟩)
          rcases hj with hj | hj
          · exact (hv.ownS hj).1
          · have := hbb.size; omega
        · exact ⟨HF.out.os.trans hbb.os, HF.out.tape.trans hbb.tape, HF.out.output.trans hbb.output, Nat.le_trans hbb.size HF.out.size, fun j hj => (HF.out.block j (Nat.lt_of_lt_of_le hj hbb.size) (fun e => by have := (hv.ownS e).1; omega)).trans (hbb.block j hj)⟩
      case measure => simp [intOf]; omega
    · go_wp2
      go_ret
      have hkl : k = m.log.length := by omega
      subst hkl
      rw [List.take_of_length_le (by omega), ← hcl] at hv
      exact ⟨_, rfl, hv, hb.out⟩
end Go.Proofs.YtkehpnobidendaaGreatDoor
