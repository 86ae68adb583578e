/- The program's member: what is sent within a call: the channel, wait, propose. What was sent is taken out of the channel: newOutbox, takeAll. -/
import Derived.Test.YtkehpnobidendaaGreatDoorM21
import Derived.Test.YtkehpnobidendaaGreatDoorM22
namespace Go.Proofs.YtkehpnobidendaaGreatDoor
open Go.RowKit Go.Maps Go.Conc

/-- A letter's value. -/
def Ltr.val (l : Ltr) : Value := .agg l.cells.toArray
/-- The channel at c holds these letters. -/
structure OutB (w : World) (c : Nat) (ls : List Ltr) : Prop where
  ex : ∃ s r, w.heap[c]? = some (.chan 2 (ls.map Ltr.val).toArray false s r false)
theorem OutB.lt {w : World} {c : Nat} {ls : List Ltr} (h : OutB w c ls) : c < w.heap.size := by
  obtain ⟨s, r, h⟩ := h.ex
  exact (Array.getElem?_eq_some_iff.1 h).1
theorem OutB.same {w w' : World} {c : Nat} {ls : List Ltr} (h : OutB w c ls) (hb : w'.heap[c]? = w.heap[c]?) : OutB w' c ls := by
  obtain ⟨s, r, h⟩ := h.ex
  exact ⟨s, r, hb.trans h⟩
theorem OutB.below {w w' : World} {c : Nat} {ls : List Ltr} (h : OutB w c ls) (hb : Below w.heap.size w w') : OutB w' c ls := h.same (hb.block c h.lt)
theorem OutB.fr {w w' : World} {c : Nat} {ls : List Ltr} {S : Nat → Prop} (h : OutB w c ls) (hf : Fr S w w') (hc : ¬ S c) : OutB w' c ls := h.same (hf.block c h.lt hc)

set_option maxHeartbeats 2000000 in
set_option maxRecDepth 100000 in
theorem pwait (w : World) (p c : Nat) (S : Nat → Prop) (m : Mem) (h : PMem w p S m) (hc : OutB w c []) (hcs : ¬ S c) (hc0 : c ≠ 0) (i0 : 0 ≤ m.id) (i1 : m.id ≤ 3) (v0 : 1 ≤ m.view) (v1 : m.view ≤ 1000) (w0 : 0 ≤ m.waited) (w1 : m.waited ≤ 100000000000000) :
    Calls Tryz.prog 38 #[.pointer (some ⟨p, 0, none⟩), .chan (some c)] w fun e w' => e = .returned (.tuple #[]) ∧ PMem w' p S m.wait.1 ∧ OutB w' c m.wait.2 ∧ Fr (fun k => S k ∨ k = c) w w' := by
  have hs := h.see
  have c3 := hs.c3
  have fz := hs.fz
  have k1 := h.set { m with waited := m.waited + 1 } 3 (.int .i64 (m.waited + 1)) (fun _ _ _ _ _ => rfl) rfl rfl rfl rfl rfl (Int.le_refl _) (Int.le_refl _)
  have HF : Hid (Fr S w (w.setCell ⟨p, 3, none⟩ (.int .i64 (m.waited + 1)))) := Fr.setCell w h.sp _
  have HK : Hid (PMem (w.setCell ⟨p, 3, none⟩ (.int .i64 (m.waited + 1))) p S { m with waited := m.waited + 1 }) := k1
  have HC : Hid (OutB (w.setCell ⟨p, 3, none⟩ (.int .i64 (m.waited + 1))) c []) := hc.fr HF.out hcs
  have hw : IntKind.i64.wrap (m.waited + 1) = m.waited + 1 := by rw [IntKind.wrap_i64]; omega
  clear h hs k1 hc
  refine calls_of_wn Tryz.func38 rfl ?_
  simp only [Tryz.ntmps38, List.size_toArray, List.length_cons, List.length_nil, Nat.reduceAdd, Nat.reduceSub, Array.replicate_succ, Array.replicate_zero, List.push_toArray, List.append_toArray, List.nil_append, List.cons_append]
  refine WN.seq_wp (fun K hK => ?_)
  go_wp2
  have hs1 := HK.out.see
  have d1 := hs1.c1
  have d2 := hs1.c2
  have d3 := hs1.c3
  have lp := hs1.lt
  dsimp only at d1 d2 d3
  clear hs1 c3 fz
  generalize w.setCell ⟨p, 3, none⟩ (.int .i64 (m.waited + 1)) = W at *
  by_cases hwp : m.patience ≤ m.waited + 1
  · by_cases hv : m.view < 1000
    · have HT : Hid (m.wait = (({ m with waited := m.waited + 1 } : Mem).enter (m.view + 1), [(({ m with waited := m.waited + 1 } : Mem).enter (m.view + 1)).enterLtr])) := by
        show m.wait = _
        unfold Mem.wait
        rw [if_pos ⟨hwp, hv⟩]
      have hw2 : IntKind.i64.wrap (m.view + 1) = m.view + 1 := by rw [IntKind.wrap_i64]; omega
      refine WN.seq_wp (fun K hK => ?_)
      go_wp2
      go_quiet (fail)
      go_wp2
      refine WN.seq_wp (fun K hK => ?_)
      go_wp2_with (go_at_call 57; refine (penter _ p S _ (HK.out.heap (w' := W.drewN nq) rfl) (m.view + 1) (by omega) (by omega) (by dsimp only; omega)).mono ?_; rintro e w2 ⟨rfl, hm2, hf2⟩)
      have hC2 : OutB w2 c [] := (HC.out.same (w' := W.drewN nq) rfl).fr hf2 hcs
      have hF2 : Fr S w w2 := (HF.out.trans (Fr.of_below (S := S) (below_drewN (Below.refl _ W) nq)) (fun _ h => .inl h)).trans hf2 (fun _ h => .inl h)
      refine WN.region ?_
      refine RS.value (o := _) (d := some 34) (v := .chan (some c)) (w' := w2) rfl rfl rfl rfl ?_
      go_frame
      refine RS.value (o := _) (d := some 35) (v := .pointer (some ⟨p, 0, none⟩)) (w' := w2) rfl rfl rfl rfl ?_
      go_frame
      refine RS.call (o := _) (f := 58) (d := some 36) (args := #[.pointer (some ⟨p, 0, none⟩)]) (w' := w2) rfl rfl rfl (by go_simp) ?_
      refine (penterLetter w2 p S _ hm2 i0 i1 (by dsimp only [Mem.enter]; omega) (by dsimp only [Mem.enter]; omega)).mono ?_
      rintro e w3 ⟨rfl, hb3⟩
      obtain ⟨s, r, hch⟩ := (hC2.below hb3).ex
      refine ⟨_, rfl, ?_⟩
      go_frame
      refine RS.send (o := _) (c := c) (w' := w3) (z := .tuple #[]) (v := .agg (({ m with waited := m.waited + 1 } : Mem).enter (m.view + 1)).enterLtr.cells.toArray) (d := none) rfl rfl rfl rfl hch (by simp) (RS.nil ?_)
      refine bodyPost_end (results_none rfl _ _ _) rfl ?_
      rw [HT.out]
      have hF3 : Fr S w w3 := hF2.trans (Fr.of_below (S := S) hb3) (fun _ h => .inl h)
      have hFs := Fr.setChan (S := fun k => k = c) w3 rfl 2 ((([] : List Ltr).map Ltr.val).toArray.push (Value.agg (({ m with waited := m.waited + 1 } : Mem).enter (m.view + 1)).enterLtr.cells.toArray)) false (s + 1) r false
      refine ⟨rfl, (hm2.below hb3).fr hFs (fun k hk e => hcs (e ▸ hk)) (fun e => hc0 e.symm), ⟨s + 1, r, heap_setChan w3 c _ _ _ _ _ _ (hC2.below hb3).lt⟩, (hF3.mono (fun _ h => .inl h)).trans hFs (fun i h => .inl (.inr h))⟩
    · have HT : Hid (m.wait = ({ m with waited := m.waited + 1 }, [])) := by
        show m.wait = _
        unfold Mem.wait
        rw [if_neg (fun h => hv h.2)]
      refine WN.of_wp ?_
      go_wp2
      go_quiet (fail)
      go_wp2
      refine bodyPost_ret (results_none rfl _ _ _) rfl ?_
      rw [HT.out]
      exact ⟨rfl, HK.out.heap rfl, HC.out.same rfl, ((HF.out.trans (Fr.drewN S W nq) (fun _ h => .inl h))).mono (fun _ h => .inl h)⟩
  · have HT : Hid (m.wait = ({ m with waited := m.waited + 1 }, [])) := by
      show m.wait = _
      unfold Mem.wait
      rw [if_neg (fun h => hwp h.1)]
    refine WN.of_wp ?_
    go_wp2
    go_quiet (fail)
    go_wp2
    refine bodyPost_ret (results_none rfl _ _ _) rfl ?_
    rw [HT.out]
    exact ⟨rfl, HK.out.heap rfl, HC.out.same rfl, ((HF.out.trans (Fr.drewN S W nq) (fun _ h => .inl h))).mono (fun _ h => .inl h)⟩
end Go.Proofs.YtkehpnobidendaaGreatDoor

namespace Go.Proofs.YtkehpnobidendaaGreatDoor
open Go.RowKit Go.Maps Go.Conc

theorem ld_ltr (a : Addr) : loadVar 67 a = rowVar 67 a := rfl
attribute [local go_sem ↓] ld_ltr put_ltr
theorem mk_outbox (w : World) : (Instr.makeChan 86 (.int .i64 2)).run Tryz.prog w = .ok (.chan (some w.heap.size)) (w.alloc (.chan 2 #[] false 0 0 false)) := by
  have h : (Tryz.prog.info? 67).map (·.bytes) = some 168 := by kernel_rfl
  obtain ⟨i, hi, hb⟩ := Option.map_eq_some_iff.1 h
  simpa using run_makeChan (P := Tryz.prog) (w := w) Tryz.underlying86 hi .i64 2 (by omega) (by rw [hb]; omega)
theorem pnewOutbox (w : World) : Calls Tryz.prog 36 #[] w fun e w' => e = .returned (.chan (some w.heap.size)) ∧ w' = w.alloc (.chan 2 #[] false 0 0 false) := by
  have hmk := mk_outbox
  go_enter Tryz.func36, Tryz.ntmps36
  go_wp2
  go_ret
  exact ⟨rfl, rfl⟩
/-- While they are taken: these are out, those are still in. -/
structure Took (w : World) (c R : Nat) (out ls : List Ltr) (wr : World) : Prop where
  ob : OutB wr c ls
  row : ∃ a cap, wr.heap[R]? = some (.cells #[.slice a out.length cap] 27 (0, 0)) ∧ Row wr (fun k => w.heap.size ≤ k) 67 20 (.slice a out.length cap) out.length (out.flatMap Ltr.cells)
  fr : Fr (fun k => k = c ∨ k = R) w wr
theorem Took.put {w wr : World} {c R : Nat} {out ls : List Ltr} {l : Ltr} (h : Took w c R out (l :: ls) wr) (hRc : R ≠ c) (hcl : c < w.heap.size) (s r : Nat) (hch : wr.heap[c]? = some (.chan 2 ((l :: ls).map Ltr.val).toArray false s r false)) : Took w c R out ls (wr.setChan c 2 (((l :: ls).map Ltr.val).toArray.extract 1 ((l :: ls).map Ltr.val).toArray.size) false s (r + 1) false) := by
  have hf := Fr.setChan (S := fun k => k = c) wr rfl 2 (((l :: ls).map Ltr.val).toArray.extract 1 ((l :: ls).map Ltr.val).toArray.size) false s (r + 1) false
  obtain ⟨a, cap, h1, h2⟩ := h.row
  refine ⟨⟨s, r + 1, ?_⟩, ⟨a, cap, (hf.block R (lt_at h1) hRc).trans h1, h2.same (fun k hk hl => ⟨hf.block k hl (fun e => by omega), hk⟩)⟩, h.fr.trans hf (fun i hi => .inl (.inl hi))⟩
  rw [heap_setChan wr c 2 _ false s (r + 1) false (Array.getElem?_eq_some_iff.1 hch).1]
  simp
  exact List.take_of_length_le (by simp)
theorem Took.below {w wr w2 : World} {c R : Nat} {out ls : List Ltr} (h : Took w c R out ls wr) (hb : Below wr.heap.size wr w2) : Took w c R out ls w2 := by
  obtain ⟨a, cap, h1, h2⟩ := h.row
  exact ⟨h.ob.below hb, ⟨a, cap, (hb.block R (lt_at h1)).trans h1, h2.below hb⟩, h.fr.trans (Fr.of_below (S := fun _ => False) hb) (fun _ h => h.elim)⟩
theorem Fr.setCells {S : Nat → Prop} {B : Nat} (hB : S B) : ∀ (vs : List Value) (o : Nat) (w : World), Fr S w (w.setCells B o vs)
  | [], _, w => Fr.refl S w
  | v :: r, o, w => (Fr.setCell w (a := ⟨B, o, none⟩) hB v).trans (Fr.setCells hB r (o + 1) _) (fun _ h => .inl h)
theorem Fr.drewAlloc (S : Nat → Prop) (w : World) (o : Obj) : Fr S w (w.alloc o).drew := (Fr.alloc S w o).trans (Fr.drew S _) (fun _ h => .inl h)
/-- One more is out. -/
theorem Took.more {w X Y w7 : World} {c R : Nat} {out ls : List Ltr} {l : Ltr} {a a7 : Option Addr} {cap cp7 : Nat} (h : Took w c R out ls X) (hRc : R ≠ c) (hcl : c < w.heap.size) (hRl : R < w.heap.size) (hR : X.heap[R]? = some (.cells #[.slice a out.length cap] 27 (0, 0))) (hrow : Row X (fun k => w.heap.size ≤ k) 67 20 (.slice a out.length cap) out.length (out.flatMap Ltr.cells))
    (hXY : Fr (fun _ => False) X Y) (hr : Row w7 (fun k => (Value.slice a out.length cap).ownBlock = some k ∨ k = Y.heap.size) 67 20 (.slice a7 (out.length + 1) cp7) (out.length + 1) (out.flatMap Ltr.cells ++ l.cells)) (hf : Fr (fun k => (Value.slice a out.length cap).ownBlock = some k) Y w7) :
    Took w c R (out ++ [l]) ls (w7.setCell ⟨R, 0, none⟩ (.slice a7 (out.length + 1) cp7)) := by
  have s1 := h.fr.size
  have s2 := hXY.size
  have s3 := hf.size
  have own : ∀ k, (Value.slice a out.length cap).ownBlock = some k → w.heap.size ≤ k := fun k hk => (hrow.ownS hk).1
  have hk : ∀ k, k < w.heap.size → w7.heap[k]? = X.heap[k]? := fun k hk => (hf.block k (by omega) (fun e => by have := own k e; omega)).trans (hXY.block k (by omega) (fun h => h))
  have hR7 : w7.heap[R]? = some (.cells #[.slice a out.length cap] 27 (0, 0)) := (hk R hRl).trans hR
  have hst := heap_store hR7 (i := 0) (.slice a7 (out.length + 1) cp7)
  refine ⟨h.ob.same ((heap_store_ne _ hRc.symm).trans (hk c hcl)), ⟨a7, cp7, by simpa using hst, ?_⟩, ?_⟩
  · have h8 : Row w7 (fun k => w.heap.size ≤ k) 67 20 (.slice a7 (out.length + 1) cp7) (out.length + 1) (out.flatMap Ltr.cells ++ l.cells) := hr.reown (fun k hk' => by
      rcases (hr.ownS hk').1 with h1 | h1
      · exact own k h1
      · omega)
    have h9 : Row (w7.setCell ⟨R, 0, none⟩ (.slice a7 (out.length + 1) cp7)) (fun k => w.heap.size ≤ k) 67 20 (.slice a7 (out.length + 1) cp7) (out.length + 1) (out.flatMap Ltr.cells ++ l.cells) := h8.same (fun k hk' _ => ⟨heap_store_ne _ (by omega), hk'⟩)
    simpa using h9
  · have f1 : Fr (fun k => k = c ∨ k = R) w w7 := (h.fr.trans hXY (fun _ h => h.elim)).trans hf (fun i hi => .inr (own i hi))
    exact f1.trans (Fr.setCell (S := fun k => k = R) w7 rfl _) (fun i hi => .inl (.inr hi))
theorem LHeld.start0 (w : World) (cs : Array Value) (hc : cs.size = 20) (T : TypeId) : (w.alloc (.cells cs T)).there w.heap.size 0 20 := fun j hj => by
  have hn := heap_alloc_new w (.cells cs T)
  refine ⟨?_, free_at hn _⟩
  rw [cell_at hn]
  simp; omega
set_option maxHeartbeats 2000000 in
set_option maxRecDepth 100000 in
theorem ptakeAll (w : World) (c R : Nat) (ls : List Ltr) (hls : ls.length ≤ 2) (hRc : R ≠ c) (hcl : c < w.heap.size) (hRl : R < w.heap.size) (h : Took w c R [] ls w) (u : FrameMode) :
    CallsD Tryz.prog 37 #[.chan (some c), .pointer (some ⟨R, 0, none⟩)] u w fun e u' w' => u' = u ∧ (e = .returned (.tuple #[]) ∧ Took w c R ls [] w') := by
  refine callsD_of_wn Tryz.func37 rfl ?_
  simp only [Tryz.ntmps37, List.size_toArray, List.length_cons, List.length_nil, Nat.reduceAdd, Nat.reduceSub, Array.replicate_succ, Array.replicate_zero, List.push_toArray, List.append_toArray, List.nil_append, List.cons_append]
  refine WN.block ?_
  refine WN.loop (fun n a wr => ∃ out rest u4 u5 u6 u7 u8 u9 u10 u11 u12 u13 u14 u15 u16 u17, ls = out ++ rest ∧ n = rest.length ∧ Took w c R out rest wr ∧ a = { tmps := #[.chan (some c), .pointer (some ⟨R, 0, none⟩), undef, undef, u4, u5, u6, u7, u8, u9, u10, u11, u12, u13, u14, u15, u16, u17], defers := [] }) ls.length ⟨[], ls, undef, undef, undef, undef, undef, undef, undef, undef, undef, undef, undef, undef, undef, undef, rfl, rfl, h, rfl⟩ ?_
  rintro n a wr ⟨out, rest, u4, u5, u6, u7, u8, u9, u10, u11, u12, u13, u14, u15, u16, u17, hsp, rfl, hT, rfl⟩
  have HT : Hid (Took w c R out rest wr) := hT
  have HH : Hid (Took w c R [] ls w) := h
  clear hT h
  refine WN.block ?_
  refine WN.seq_wp (fun K hK => ?_)
  go_wp2
  refine WN.seq ?_
  refine WN.region ?_
  obtain ⟨s, r, hch⟩ := HT.out.ob.ex
  cases rest with
  | nil =>
    refine RS.select_none (o := _) (c := c) (z := .agg #[.int .i64 0, .int .i64 0, .int .i64 0, .int .i64 0, .int .i64 0, .int .i64 0, .int .u64 0, .int .u64 0, .int .u64 0, .int .u64 0, .int .u64 0, .string ⟨#[]⟩, .int .u64 0, .int .i64 0, .int .u64 0, .int .u64 0, .int .u64 0, .int .u64 0, .int .u64 0, .int .u64 0]) (d := some 6) (w' := wr) rfl rfl rfl (by go_simp; rfl) hch ?_
    go_frame
    refine RS.value (o := _) (d := some 7) (v := .int .i64 (-1)) (w' := wr) rfl rfl rfl (by go_simp) ?_
    go_frame
    refine RS.value (o := _) (d := some 8) (v := .bool false) (w' := wr) rfl rfl rfl (by go_simp) ?_
    go_frame
    refine RS.nil ?_
    refine WN.block (WN.cond (t := false) rfl (WN.of_wp (wp_ret ?_)))
    (try simp only [Exit.inBlock, Exit.then])
    refine bodyPost_ret (results_none rfl _ _ _) rfl ⟨rfl, ?_⟩
    rw [List.append_nil] at hsp
    rw [hsp]
    exact HT.out
  | cons l rest =>
    have hT1 := HT.out.put hRc hcl s r hch
    refine RS.select_some (o := _) (c := c) (z := .agg #[.int .i64 0, .int .i64 0, .int .i64 0, .int .i64 0, .int .i64 0, .int .i64 0, .int .u64 0, .int .u64 0, .int .u64 0, .int .u64 0, .int .u64 0, .string ⟨#[]⟩, .int .u64 0, .int .i64 0, .int .u64 0, .int .u64 0, .int .u64 0, .int .u64 0, .int .u64 0, .int .u64 0]) (d := some 6) (w' := wr) rfl rfl rfl (by go_simp; rfl) hch (by simp) ?_
    have hv0 : ((l :: rest).map Ltr.val).toArray.getD 0 undef = l.val := by simp
    rw [hv0]
    have HT1 : Hid (Took w c R out rest (wr.setChan c 2 (((l :: rest).map Ltr.val).toArray.extract 1 ((l :: rest).map Ltr.val).toArray.size) false s (r + 1) false)) := hT1
    clear hT1 hv0 hch HT
    generalize wr.setChan c 2 (((l :: rest).map Ltr.val).toArray.extract 1 ((l :: rest).map Ltr.val).toArray.size) false s (r + 1) false = W at *
    go_frame
    refine RS.value (o := _) (d := some 7) (v := .int .i64 0) (w' := W) rfl rfl rfl (by go_simp) ?_
    go_frame
    refine RS.value (o := _) (d := some 8) (v := .bool true) (w' := W) rfl rfl rfl (by go_simp) ?_
    go_frame
    refine RS.nil ?_
    refine WN.block (WN.cond (t := true) rfl (WN.of_wp ?_))
    obtain ⟨l0, ⟨xk, xf, xv, ⟨bv, ⟨jv, jb, j0, j1, j2, j3⟩, bc⟩, nu, ⟨cv, cb, k0, k1, k2, k3⟩, sl⟩⟩ := l
    have hpu : (rowPut 67 ⟨W.heap.size, 0, none⟩ (.agg #[.int .i64 l0, .int .i64 xk, .int .i64 xf, .int .i64 xv, .int .i64 bv, .int .i64 jv, .int .u64 jb, .int .u64 j0, .int .u64 j1, .int .u64 j2, .int .u64 j3, .string bc, .int .u64 nu, .int .i64 cv, .int .u64 cb, .int .u64 k0, .int .u64 k1, .int .u64 k2, .int .u64 k3, .int .u64 sl])).run Tryz.prog (W.alloc (.cells #[.int .i64 0, .int .i64 0, .int .i64 0, .int .i64 0, .int .i64 0, .int .i64 0, .int .u64 0, .int .u64 0, .int .u64 0, .int .u64 0, .int .u64 0, .string ⟨#[]⟩, .int .u64 0, .int .i64 0, .int .u64 0, .int .u64 0, .int .u64 0, .int .u64 0, .int .u64 0, .int .u64 0] 67)) = .ok () ((W.alloc (.cells #[.int .i64 0, .int .i64 0, .int .i64 0, .int .i64 0, .int .i64 0, .int .i64 0, .int .u64 0, .int .u64 0, .int .u64 0, .int .u64 0, .int .u64 0, .string ⟨#[]⟩, .int .u64 0, .int .i64 0, .int .u64 0, .int .u64 0, .int .u64 0, .int .u64 0, .int .u64 0, .int .u64 0] 67)).setCells W.heap.size 0 [.int .i64 l0, .int .i64 xk, .int .i64 xf, .int .i64 xv, .int .i64 bv, .int .i64 jv, .int .u64 jb, .int .u64 j0, .int .u64 j1, .int .u64 j2, .int .u64 j3, .string bc, .int .u64 nu, .int .i64 cv, .int .u64 cb, .int .u64 k0, .int .u64 k1, .int .u64 k2, .int .u64 k3, .int .u64 sl]) := rowPut_mid _ W.heap.size 0 67 #[.int .i64 l0, .int .i64 xk, .int .i64 xf, .int .i64 xv, .int .i64 bv, .int .i64 jv, .int .u64 jb, .int .u64 j0, .int .u64 j1, .int .u64 j2, .int .u64 j3, .string bc, .int .u64 nu, .int .i64 cv, .int .u64 cb, .int .u64 k0, .int .u64 k1, .int .u64 k2, .int .u64 k3, .int .u64 sl] (LHeld.start0 W _ rfl _) ltr_size20 (by simp [Value.oneCell'])
    dsimp only [Ltr.val, Ltr.cells, Msg.cells]
    go_upto_region 3 with fail
    have hb2 : Below W.heap.size W ((W.alloc (.cells #[.int .i64 0, .int .i64 0, .int .i64 0, .int .i64 0, .int .i64 0, .int .i64 0, .int .u64 0, .int .u64 0, .int .u64 0, .int .u64 0, .int .u64 0, .string ⟨#[]⟩, .int .u64 0, .int .i64 0, .int .u64 0, .int .u64 0, .int .u64 0, .int .u64 0, .int .u64 0, .int .u64 0] 67)).setCells W.heap.size 0 [.int .i64 l0, .int .i64 xk, .int .i64 xf, .int .i64 xv, .int .i64 bv, .int .i64 jv, .int .u64 jb, .int .u64 j0, .int .u64 j1, .int .u64 j2, .int .u64 j3, .string bc, .int .u64 nu, .int .i64 cv, .int .u64 cb, .int .u64 k0, .int .u64 k1, .int .u64 k2, .int .u64 k3, .int .u64 sl]) := below_setCells (Nat.le_refl _) _ _ _ (below_alloc _ _)
    have hlw : ∀ W', Below ((W.alloc (.cells #[.int .i64 0, .int .i64 0, .int .i64 0, .int .i64 0, .int .i64 0, .int .i64 0, .int .u64 0, .int .u64 0, .int .u64 0, .int .u64 0, .int .u64 0, .string ⟨#[]⟩, .int .u64 0, .int .i64 0, .int .u64 0, .int .u64 0, .int .u64 0, .int .u64 0, .int .u64 0, .int .u64 0] 67)).setCells W.heap.size 0 [.int .i64 l0, .int .i64 xk, .int .i64 xf, .int .i64 xv, .int .i64 bv, .int .i64 jv, .int .u64 jb, .int .u64 j0, .int .u64 j1, .int .u64 j2, .int .u64 j3, .string bc, .int .u64 nu, .int .i64 cv, .int .u64 cb, .int .u64 k0, .int .u64 k1, .int .u64 k2, .int .u64 k3, .int .u64 sl]).heap.size ((W.alloc (.cells #[.int .i64 0, .int .i64 0, .int .i64 0, .int .i64 0, .int .i64 0, .int .i64 0, .int .u64 0, .int .u64 0, .int .u64 0, .int .u64 0, .int .u64 0, .string ⟨#[]⟩, .int .u64 0, .int .i64 0, .int .u64 0, .int .u64 0, .int .u64 0, .int .u64 0, .int .u64 0, .int .u64 0] 67)).setCells W.heap.size 0 [.int .i64 l0, .int .i64 xk, .int .i64 xf, .int .i64 xv, .int .i64 bv, .int .i64 jv, .int .u64 jb, .int .u64 j0, .int .u64 j1, .int .u64 j2, .int .u64 j3, .string bc, .int .u64 nu, .int .i64 cv, .int .u64 cb, .int .u64 k0, .int .u64 k1, .int .u64 k2, .int .u64 k3, .int .u64 sl]) W' → (rowVar 67 ⟨W.heap.size, 0, none⟩).run Tryz.prog W' = .ok (.agg #[.int .i64 l0, .int .i64 xk, .int .i64 xf, .int .i64 xv, .int .i64 bv, .int .i64 jv, .int .u64 jb, .int .u64 j0, .int .u64 j1, .int .u64 j2, .int .u64 j3, .string bc, .int .u64 nu, .int .i64 cv, .int .u64 cb, .int .u64 k0, .int .u64 k1, .int .u64 k2, .int .u64 k3, .int .u64 sl]) W' := fun W' hb' => by
      have hr := World.rangeAt_setCells_same (W.alloc (.cells #[.int .i64 0, .int .i64 0, .int .i64 0, .int .i64 0, .int .i64 0, .int .i64 0, .int .u64 0, .int .u64 0, .int .u64 0, .int .u64 0, .int .u64 0, .string ⟨#[]⟩, .int .u64 0, .int .i64 0, .int .u64 0, .int .u64 0, .int .u64 0, .int .u64 0, .int .u64 0, .int .u64 0] 67)) W.heap.size 0 [.int .i64 l0, .int .i64 xk, .int .i64 xf, .int .i64 xv, .int .i64 bv, .int .i64 jv, .int .u64 jb, .int .u64 j0, .int .u64 j1, .int .u64 j2, .int .u64 j3, .string bc, .int .u64 nu, .int .i64 cv, .int .u64 cb, .int .u64 k0, .int .u64 k1, .int .u64 k2, .int .u64 k3, .int .u64 sl] (LHeld.start0 W _ rfl _)
      have hlt : W.heap.size < ((W.alloc (.cells #[.int .i64 0, .int .i64 0, .int .i64 0, .int .i64 0, .int .i64 0, .int .i64 0, .int .u64 0, .int .u64 0, .int .u64 0, .int .u64 0, .int .u64 0, .string ⟨#[]⟩, .int .u64 0, .int .i64 0, .int .u64 0, .int .u64 0, .int .u64 0, .int .u64 0, .int .u64 0, .int .u64 0] 67)).setCells W.heap.size 0 [.int .i64 l0, .int .i64 xk, .int .i64 xf, .int .i64 xv, .int .i64 bv, .int .i64 jv, .int .u64 jb, .int .u64 j0, .int .u64 j1, .int .u64 j2, .int .u64 j3, .string bc, .int .u64 nu, .int .i64 cv, .int .u64 cb, .int .u64 k0, .int .u64 k1, .int .u64 k2, .int .u64 k3, .int .u64 sl]).heap.size := by
        have h1 : (W.alloc (.cells #[.int .i64 0, .int .i64 0, .int .i64 0, .int .i64 0, .int .i64 0, .int .i64 0, .int .u64 0, .int .u64 0, .int .u64 0, .int .u64 0, .int .u64 0, .string ⟨#[]⟩, .int .u64 0, .int .i64 0, .int .u64 0, .int .u64 0, .int .u64 0, .int .u64 0, .int .u64 0, .int .u64 0] 67)).heap.size ≤ ((W.alloc (.cells #[.int .i64 0, .int .i64 0, .int .i64 0, .int .i64 0, .int .i64 0, .int .i64 0, .int .u64 0, .int .u64 0, .int .u64 0, .int .u64 0, .int .u64 0, .string ⟨#[]⟩, .int .u64 0, .int .i64 0, .int .u64 0, .int .u64 0, .int .u64 0, .int .u64 0, .int .u64 0, .int .u64 0] 67)).setCells W.heap.size 0 [.int .i64 l0, .int .i64 xk, .int .i64 xf, .int .i64 xv, .int .i64 bv, .int .i64 jv, .int .u64 jb, .int .u64 j0, .int .u64 j1, .int .u64 j2, .int .u64 j3, .string bc, .int .u64 nu, .int .i64 cv, .int .u64 cb, .int .u64 k0, .int .u64 k1, .int .u64 k2, .int .u64 k3, .int .u64 sl]).heap.size := (Fr.setCells (S := fun k => k = W.heap.size) rfl [.int .i64 l0, .int .i64 xk, .int .i64 xf, .int .i64 xv, .int .i64 bv, .int .i64 jv, .int .u64 jb, .int .u64 j0, .int .u64 j1, .int .u64 j2, .int .u64 j3, .string bc, .int .u64 nu, .int .i64 cv, .int .u64 cb, .int .u64 k0, .int .u64 k1, .int .u64 k2, .int .u64 k3, .int .u64 sl] 0 (W.alloc (.cells #[.int .i64 0, .int .i64 0, .int .i64 0, .int .i64 0, .int .i64 0, .int .i64 0, .int .u64 0, .int .u64 0, .int .u64 0, .int .u64 0, .int .u64 0, .string ⟨#[]⟩, .int .u64 0, .int .i64 0, .int .u64 0, .int .u64 0, .int .u64 0, .int .u64 0, .int .u64 0, .int .u64 0] 67))).size
        simp only [World.size_alloc] at h1
        omega
      exact rowVar_mid W' W.heap.size 0 67 [.int .i64 l0, .int .i64 xk, .int .i64 xf, .int .i64 xv, .int .i64 bv, .int .i64 jv, .int .u64 jb, .int .u64 j0, .int .u64 j1, .int .u64 j2, .int .u64 j3, .string bc, .int .u64 nu, .int .i64 cv, .int .u64 cb, .int .u64 k0, .int .u64 k1, .int .u64 k2, .int .u64 k3, .int .u64 sl] _ (fun j v hv => by rw [hb'.cell (p := ⟨W.heap.size, 0 + j, none⟩) hlt]; exact hr j v hv) Tryz.underlying67 rfl ltr_size20
    have hT2 := HT1.out.below hb2
    have HT2 : Hid (Took w c R out rest ((W.alloc (.cells #[.int .i64 0, .int .i64 0, .int .i64 0, .int .i64 0, .int .i64 0, .int .i64 0, .int .u64 0, .int .u64 0, .int .u64 0, .int .u64 0, .int .u64 0, .string ⟨#[]⟩, .int .u64 0, .int .i64 0, .int .u64 0, .int .u64 0, .int .u64 0, .int .u64 0, .int .u64 0, .int .u64 0] 67)).setCells W.heap.size 0 [.int .i64 l0, .int .i64 xk, .int .i64 xf, .int .i64 xv, .int .i64 bv, .int .i64 jv, .int .u64 jb, .int .u64 j0, .int .u64 j1, .int .u64 j2, .int .u64 j3, .string bc, .int .u64 nu, .int .i64 cv, .int .u64 cb, .int .u64 k0, .int .u64 k1, .int .u64 k2, .int .u64 k3, .int .u64 sl])) := hT2
    have h1 := hlw _ (Below.refl _ _).drew
    have h2 := fun o => hlw _ (((Below.refl _ _).alloc (Nat.le_refl _) o).drew)
    clear hpu hb2 hlw HT1 hT2
    generalize (W.alloc (.cells #[.int .i64 0, .int .i64 0, .int .i64 0, .int .i64 0, .int .i64 0, .int .i64 0, .int .u64 0, .int .u64 0, .int .u64 0, .int .u64 0, .int .u64 0, .string ⟨#[]⟩, .int .u64 0, .int .i64 0, .int .u64 0, .int .u64 0, .int .u64 0, .int .u64 0, .int .u64 0, .int .u64 0] 67)).setCells W.heap.size 0 [.int .i64 l0, .int .i64 xk, .int .i64 xf, .int .i64 xv, .int .i64 bv, .int .i64 jv, .int .u64 jb, .int .u64 j0, .int .u64 j1, .int .u64 j2, .int .u64 j3, .string bc, .int .u64 nu, .int .i64 cv, .int .u64 cb, .int .u64 k0, .int .u64 k1, .int .u64 k2, .int .u64 k3, .int .u64 sl] = X at *
    obtain ⟨a, cap, hR, hrow⟩ := HT2.out.row
    have q1 : X.cell? ⟨R, 0, none⟩ = some (.slice a out.length cap) := cell_at hR 0
    have q1a : ∀ o, (X.alloc o).cell? ⟨R, 0, none⟩ = some (.slice a out.length cap) := fun o => by rw [World.cell?_of_block (Below.heap_alloc X o R (lt_at hR))]; exact q1
    have fz := free_at hR
    have HRow : Hid (Row X (fun k => w.heap.size ≤ k) 67 20 (.slice a out.length cap) out.length (out.flatMap Ltr.cells)) := hrow
    have HHR : Hid (X.heap[R]? = some (.cells #[.slice a out.length cap] 27 (0, 0))) := hR
    have hol : out.length ≤ 2 := by rw [hsp] at hls; simp at hls; omega
    have HRK : Hid (∀ (o : Obj) w7, Fr (fun k => (Value.slice a out.length cap).ownBlock = some k) (X.alloc o).drew w7 → w7.heap[R]? = some (.cells #[.slice a out.length cap] 27 (0, 0))) := fun o w7 hf => (hf.block R (by have := lt_at hR; simp; omega) (fun e => by have h3 := (hrow.ownS e).1; have h4 := hRl; omega)).trans ((Below.heap_alloc X o R (lt_at hR)).trans hR)
    clear hrow hR
    go_region_law (refine step_append_row rfl (.tmp 13) (.tmp 15) 27 rfl (fun k => w.heap.size ≤ k) 67 _ 20 168 Tryz.underlying27 info_letter rfl (.slice a out.length cap) out.length (out.flatMap Ltr.cells) (by simp [Act.eval]) ((HRow.out.alloc _).drew) ⟨X.heap.size, 0, none⟩ 1 1 (Ltr.cells ⟨l0, ⟨xk, xf, xv, ⟨bv, ⟨jv, jb, j0, j1, j2, j3⟩, bc⟩, nu, ⟨cv, cb, k0, k1, k2, k3⟩, sl⟩⟩) (by simp [Act.eval]) rfl (new_cells _ _ _ rfl) (by simp [Ltr.cells, Msg.cells, Value.oneCell']) (by omega) (by unfold maxLen; omega) (by omega) ?_; intro v' w7 hr' hf; obtain ⟨a7, cp7, rfl⟩ := hr'.isSlice; have F7 : Hid (Fr _ _ w7) := hf; have R7 : Hid _ := hr'; have hbR : w7.heap[R]? = some (.cells #[.slice a out.length cap] 27 (0, 0)) := HRK.out _ w7 hf; have q7 : w7.cell? ⟨R, 0, none⟩ = some (.slice a out.length cap) := cell_at hbR 0; have fz7 := free_at hbR; clear hr' hf)
    all_goals (
      refine ⟨rest.length, by simp, out ++ [⟨l0, ⟨xk, xf, xv, ⟨bv, ⟨jv, jb, j0, j1, j2, j3⟩, bc⟩, nu, ⟨cv, cb, k0, k1, k2, k3⟩, sl⟩⟩], rest, _, _, _, _, _, _, _, _, _, _, _, _, _, _, by rw [hsp]; simp, rfl, ?_, rfl⟩
      exact HT2.out.more hRc hcl hRl HHR.out HRow.out (Fr.drewAlloc _ X _) R7.out F7.out)
end Go.Proofs.YtkehpnobidendaaGreatDoor
