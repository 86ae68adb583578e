/- The document's member in memory (RMem), and its small calls: New, enter, Submit. The document's member: New; the block of a number (block). -/
import Derived.Test.YtkehpnobidendaaGreatDoorM08
import Derived.Test.YtkehpnobidendaaGreatDoorM09
namespace Go.Proofs.YtkehpnobidendaaGreatDoor
open Go.RowKit

/-- The cells of a certificate, a block, a message, a letter, a vote, a known block. -/
def Crt.cells (c : Crt) : List Value := [.int .i64 c.view, .int .u64 c.block, .int .u64 c.s0, .int .u64 c.s1, .int .u64 c.s2, .int .u64 c.s3]
def Blk.cells (b : Blk) : List Value := [.int .i64 b.view, .int .i64 b.just.view, .int .u64 b.just.block, .int .u64 b.just.s0, .int .u64 b.just.s1, .int .u64 b.just.s2, .int .u64 b.just.s3, .string b.cmd]
def Msg.cells (x : Msg) : List Value := [.int .i64 x.kind, .int .i64 x.fro, .int .i64 x.view, .int .i64 x.block.view, .int .i64 x.block.just.view, .int .u64 x.block.just.block, .int .u64 x.block.just.s0, .int .u64 x.block.just.s1, .int .u64 x.block.just.s2, .int .u64 x.block.just.s3, .string x.block.cmd, .int .u64 x.number, .int .i64 x.cert.view, .int .u64 x.cert.block, .int .u64 x.cert.s0, .int .u64 x.cert.s1, .int .u64 x.cert.s2, .int .u64 x.cert.s3, .int .u64 x.sl]
def Ltr.cells (l : Ltr) : List Value := .int .i64 l.to :: l.msg.cells
def Tk.cells (t : Tk) : List Value := [.int .i64 t.fro, .int .i64 t.view, .int .u64 t.n, .int .u64 t.sl]
def kcells (x : Nat × Blk) : List Value := .int .u64 x.1 :: x.2.cells
def icells (i : Int) : List Value := [.int .i64 i]
def ncells (n : Nat) : List Value := [.int .u64 n]
def scells (s : ByteArray) : List Value := [.string s]

/-- The cells of the document's member. -/
def rcells (m : Mem) (vb vv ve vp vl vq vo : Value) : Array Value :=
  #[.int .i64 m.id, .int .i64 m.patience, .int .i64 m.view, .int .i64 m.voted, .int .i64 m.waited,
    .int .i64 m.high.view, .int .u64 m.high.block, .int .u64 m.high.s0, .int .u64 m.high.s1, .int .u64 m.high.s2, .int .u64 m.high.s3,
    .int .i64 m.locked.view, .int .u64 m.locked.block, .int .u64 m.locked.s0, .int .u64 m.locked.s1, .int .u64 m.locked.s2, .int .u64 m.locked.s3,
    vb, vv, ve, vp, vl, vq, vo]
def rE : List (TypeId × Nat) := [(105, 9), (113, 4), (113, 4), (3, 1), (36, 1), (9, 1), (67, 20)]
def rX (m : Mem) (out : List Ltr) : List (Nat × List Value) :=
  [(m.blocks.length, m.blocks.flatMap kcells), (m.votes.length, m.votes.flatMap Tk.cells), (m.enters.length, m.enters.flatMap Tk.cells), (m.proposed.length, m.proposed.flatMap icells), (m.log.length, m.log.flatMap ncells), (m.queue.length, m.queue.flatMap scells), (out.length, out.flatMap Ltr.cells)]
/-- The document's member at p, with what it is about to send (in memory from block B on); its blocks are in S. -/
structure RMem (w : World) (p : Nat) (S : Nat → Prop) (B : Nat) (m : Mem) (out : List Ltr) : Prop where
  ex : ∃ vb vv ve vp vl vq vo, Bun w p 59 S (rcells m vb vv ve vp vl vq vo) [vb, vv, ve, vp, vl, vq, vo] rE (rX m out) ∧ ∀ k, vo.ownBlock = some k → B ≤ k
theorem RMem.below {w w' : World} {p : Nat} {S : Nat → Prop} {B : Nat} {m : Mem} {out : List Ltr} (h : RMem w p S B m out) (hf : Below w.heap.size w w') : RMem w' p S B m out := by
  obtain ⟨vb, vv, ve, vp, vl, vq, vo, h, hB⟩ := h
  exact ⟨vb, vv, ve, vp, vl, vq, vo, h.below hf, hB⟩
theorem RMem.fr {w w' : World} {p : Nat} {S Z : Nat → Prop} {B : Nat} {m : Mem} {out : List Ltr} (h : RMem w p S B m out) (hf : Fr Z w w') (hz : ∀ k, S k → ¬ Z k) : RMem w' p S B m out := by
  obtain ⟨vb, vv, ve, vp, vl, vq, vo, h, hB⟩ := h
  exact ⟨vb, vv, ve, vp, vl, vq, vo, h.fr hf hz, hB⟩
/-- At rest: what it is about to send lies nowhere: so B may be whatever. -/
theorem RMem.rest {w : World} {p : Nat} {S : Nat → Prop} {m : Mem} {out : List Ltr} (h : RMem w p S w.heap.size m out) (B : Nat) : RMem w p S B m out := by
  obtain ⟨vb, vv, ve, vp, vl, vq, vo, h, hB⟩ := h
  refine ⟨vb, vv, ve, vp, vl, vq, vo, h, fun k hk => ?_⟩
  have h1 := hB k hk
  have h2 := (h.own (i := 6) (v := vo) rfl hk).2
  omega

theorem info_known : (Tryz.prog.info? 105).map (fun i => (i.zero, i.size, i.bytes)) = some (some (.agg (kcells (0, Blk.zero)).toArray), 9, 80) := by kernel_rfl
theorem info_taken : (Tryz.prog.info? 113).map (fun i => (i.zero, i.size, i.bytes)) = some (some (.agg (Tk.cells ⟨0, 0, 0, 0⟩).toArray), 4, 32) := by kernel_rfl
theorem info_int : (Tryz.prog.info? 3).map (fun i => (i.zero, i.size, i.bytes)) = some (some (.int .i64 0), 1, 8) := by kernel_rfl
theorem info_u64 : (Tryz.prog.info? 36).map (fun i => (i.zero, i.size, i.bytes)) = some (some (.int .u64 0), 1, 8) := by kernel_rfl
theorem info_string : (Tryz.prog.info? 9).map (fun i => (i.zero, i.size, i.bytes)) = some (some (.string ⟨#[]⟩), 1, 16) := by kernel_rfl
theorem info_letter : (Tryz.prog.info? 67).map (fun i => (i.zero, i.size, i.bytes)) = some (some (.agg (Ltr.cells ⟨0, Msg.zero⟩).toArray), 20, 168) := by kernel_rfl

/-- A step by store into the record. -/
theorem RMem.set {w : World} {p : Nat} {S : Nat → Prop} {m : Mem} {out : List Ltr} {vb vv ve vp vl vq vo : Value} (h : Bun w p 59 S (rcells m vb vv ve vp vl vq vo) [vb, vv, ve, vp, vl, vq, vo] rE (rX m out)) (m' : Mem) (o : Nat) (x : Value)
    (hC : (rcells m vb vv ve vp vl vq vo).setIfInBounds o x = rcells m' vb vv ve vp vl vq vo) (hX : rX m out = rX m' out) : Bun (w.setCell ⟨p, o, none⟩ x) p 59 S (rcells m' vb vv ve vp vl vq vo) [vb, vv, ve, vp, vl, vq, vo] rE (rX m' out) := by
  have := h.store o x hC
  rw [hX] at this
  exact this

set_option maxHeartbeats 400000 in
theorem renter (w : World) (p : Nat) (S : Nat → Prop) (m : Mem) (B : Nat) (out : List Ltr) (h : RMem w p S B m out) (v : Int) :
    Calls Tryz.prog 40 #[.pointer (some ⟨p, 0, none⟩), .int .i64 v] w fun e w' => e = .returned (.tuple #[]) ∧ RMem w' p S B (m.enter v) out ∧ Fr S w w' := by
  obtain ⟨vb, vv, ve, vp, vl, vq, vo, h, hB⟩ := h
  have HB : Hid (∀ k, vo.ownBlock = some k → B ≤ k) := hB
  clear hB
  have c2 : w.cell? ⟨p, 2, none⟩ = some (.int .i64 m.view) := cell_at h.box 2
  have c4 : w.cell? ⟨p, 4, none⟩ = some (.int .i64 m.waited) := cell_at h.box 4
  have fz := free_at h.box
  have H : Hid (Bun w p 59 S (rcells m vb vv ve vp vl vq vo) [vb, vv, ve, vp, vl, vq, vo] rE (rX m out)) := h
  clear h
  go_enter Tryz.func40, Tryz.ntmps40
  go_wp2
  go_end0
  refine ⟨rfl, ⟨vb, vv, ve, vp, vl, vq, vo, ?_, HB.out⟩, ?_⟩
  · exact RMem.set (RMem.set H.out { m with view := v } 2 _ rfl rfl) (m.enter v) 4 _ rfl rfl
  · exact (Fr.setCell w H.out.sp _).trans (Fr.setCell _ H.out.sp _) (fun i hi => .inl hi)

theorem one_cell {w : World} {x : Value} {t : TypeId} : ∀ (j : Nat) u, [x][j]? = some u → (w.alloc (.cells #[x] t)).cell? ((⟨w.heap.size, 0, none⟩ : Addr).add j) = some u := by
  intro j u hj
  match j, hj with
  | 0, hj => simp at hj; subst hj; simp [Addr.add]

set_option maxHeartbeats 1000000 in
theorem rsubmit (w : World) (p : Nat) (S : Nat → Prop) (m : Mem) (B : Nat) (out : List Ltr) (h : RMem w p S B m out) (c : ByteArray) (hc : c.size ≤ 140737488351232) (hq : m.queue.length ≤ 8) :
    Calls Tryz.prog 12 #[.pointer (some ⟨p, 0, none⟩), .string c] w fun e w' => e = .returned (.int .i64 (m.submit c).2) ∧ ∃ S', RMem w' p S' B (m.submit c).1 out ∧ Grow S w S' ∧ Fr S w w' := by
  obtain ⟨vb, vv, ve, vp, vl, vq, vo, h, hB⟩ := h
  have HB : Hid (∀ k, vo.ownBlock = some k → B ≤ k) := hB
  clear hB
  have hr : Row w S 9 1 vq m.queue.length (m.queue.flatMap scells) := h.row 5 _ _ _ rfl rfl rfl
  have c22 : w.cell? ⟨p, 22, none⟩ = some vq := cell_at h.box 22
  have fz := free_at h.box
  have H : Hid (Bun w p 59 S (rcells m vb vv ve vp vl vq vo) [vb, vv, ve, vp, vl, vq, vo] rE (rX m out)) := h
  clear h
  obtain ⟨a, cap, rfl⟩ := hr.isSlice
  have HR : Hid (Row w S 9 1 (.slice a m.queue.length cap) m.queue.length (m.queue.flatMap scells)) := hr
  clear hr
  have K1 : Hid (16 < c.size → m.submit c = (m, 1)) := fun h => by unfold Mem.submit; rw [if_pos h]
  have K2 : Hid (¬ 16 < c.size → 8 ≤ m.queue.length → m.submit c = (m, 6)) := fun h g => by unfold Mem.submit; rw [if_neg h, if_pos g]
  have K3 : Hid (¬ 16 < c.size → ¬ 8 ≤ m.queue.length → m.submit c = ({ m with queue := m.queue ++ [c] }, 0)) := fun h g => by unfold Mem.submit; rw [if_neg h, if_neg g]
  by_cases h16 : 16 < c.size
  · have k := K1.out h16
    have K : Hid (m.submit c = (m, 1)) := k
    clear k K1 K2 K3
    go_enter Tryz.func12, Tryz.ntmps12
    go_wp2
    go_ret
    rw [K.out]
    exact ⟨rfl, S, ⟨vb, vv, ve, vp, vl, _, vo, H.out, HB.out⟩, Grow.refl _ _, Fr.refl _ _⟩
  · by_cases h8 : 8 ≤ m.queue.length
    · have K : Hid (m.submit c = (m, 6)) := K2.out h16 h8
      clear K1 K2 K3
      go_enter Tryz.func12, Tryz.ntmps12
      go_wp2
      go_ret
      rw [K.out]
      exact ⟨rfl, S, ⟨vb, vv, ve, vp, vl, _, vo, H.out, HB.out⟩, Grow.refl _ _, Fr.refl _ _⟩
    · have K : Hid (m.submit c = ({ m with queue := m.queue ++ [c] }, 0)) := K3.out h16 h8
      clear K1 K2 K3
      go_enter Tryz.func12, Tryz.ntmps12
      go_wp2_with (at_builtin; refine wpList_append_row rfl (.tmp 18) (.tmp 20) 30 rfl S 9 (.string ⟨#[]⟩) 1 16 Tryz.underlying30 info_string rfl (.slice a m.queue.length cap) m.queue.length (m.queue.flatMap scells) rfl (HR.out.alloc _) ⟨w.heap.size, 0, none⟩ 1 1 [.string c] rfl rfl one_cell (by simp [Value.oneCell']) (by omega) (by unfold maxLen; omega) (by omega) ?_; intro v' w1 hr' hf; obtain ⟨a', cap', rfl⟩ := hr'.isSlice; have hb1 := (H.out.alloc _).after 5 rfl hf; have d22 : w1.cell? ⟨p, 22, none⟩ = some (.slice a m.queue.length cap) := cell_at hb1 22; have fz1 := free_at hb1; clear hb1; have HR' : Hid _ := hr'; have HF : Hid (Fr _ _ w1) := hf; clear hr' hf)
      go_ret
      rw [K.out]
      refine ⟨rfl, _, ⟨vb, vv, ve, vp, vl, .slice a' (m.queue.length + 1) cap', vo, ?_, HB.out⟩, grow_put HR'.out (by simp) (fun k hk => (HR.out.ownS hk).1), ?_⟩
      · exact ((H.out.alloc _).put 5 rfl rfl _ (m.queue.length + 1, m.queue.flatMap scells ++ [.string c]) HR'.out HF.out 22 rfl rfl (by simp [rX, scells]))
      · exact (H.out.alloc _).frPut (Fr.alloc _ _ _) 5 rfl HF.out 22 _
end Go.Proofs.YtkehpnobidendaaGreatDoor

namespace Go.Proofs.YtkehpnobidendaaGreatDoor
open Go.RowKit

theorem Row.le {w : World} {S : Nat → Prop} {e : TypeId} {size : Nat} {v : Value} {n : Nat} {xs : List Value} (h : Row w S e size v n xs) : n ≤ 9223372036854775807 := by
  rcases h.val with ⟨_, rfl⟩ | ⟨g, off, cap, cur, _, _, _, h1, h2, _⟩
  · omega
  · simp only [maxLen] at h2; omega
theorem find_hit (n : Nat) : ∀ (l : List (Nat × Blk)) (k : Nat) (hk : k < l.length), (∀ (j : Nat) (hj : j < l.length), j < k → (l[j]).1 ≠ n) → (l[k]).1 = n → find n l = some (l[k]).2
  | (a, b) :: r, 0, _, _, h => by simp at h; simp [find, h]
  | (a, b) :: r, k + 1, hk, hb, h => by
    have h0 := hb 0 (by simp) (by omega)
    simp at h0
    simp only [find, if_neg h0, List.getElem_cons_succ]
    exact find_hit n r k (by simpa using hk) (fun j hj hjk => by have := hb (j + 1) (by simpa using hj) (by omega); simpa using this) (by simpa using h)
theorem find_miss (n : Nat) : ∀ (l : List (Nat × Blk)), (∀ (j : Nat) (hj : j < l.length), (l[j]).1 ≠ n) → find n l = none
  | [], _ => rfl
  | (a, b) :: r, hb => by
    have h0 := hb 0 (by simp)
    simp at h0
    simp only [find, if_neg h0]
    exact find_miss n r (fun j hj => by have := hb (j + 1) (by simpa using hj); simpa using this)
theorem kcells_len (x : Nat × Blk) : (kcells x).length = 9 := rfl
theorem blk_size : (Tryz.prog.info? 41).map (·.size) = some 8 := by kernel_rfl
theorem mid_of {w : World} {g o : Nat} {x : Nat × Blk} (h : w.rangeAt g o (kcells x)) : w.rangeAt g (o + 1) x.2.cells := fun j v hv => by
  have := h (j + 1) v (by simpa [kcells] using hv)
  rw [Nat.add_assoc, Nat.add_comm 1 j]; exact this
theorem range_alloc {w : World} {g o : Nat} {cs : List Value} (ob : Obj) (hg : g < w.heap.size) (h : w.rangeAt g o cs) : (w.alloc ob).rangeAt g o cs := fun j v hv => by
  rw [World.cell?_of_block (Below.heap_alloc w ob g hg)]; exact h j v hv

theorem Row.place {w : World} {S : Nat → Prop} {e : TypeId} {size : Nat} {a : Option Addr} {n cap : Nat} {xs : List Value} (h : Row w S e size (.slice a n cap) n xs) (hn : 0 < n) : ∃ g off, a = some ⟨g, off, none⟩ ∧ S g ∧ g < w.heap.size ∧ n ≤ cap := by
  rcases h.shape with ⟨_, h0, _⟩ | ⟨g, off, cap', hv, hS, hg, hc⟩
  · omega
  · cases hv; exact ⟨g, off, rfl, hS, hg, hc⟩

set_option maxRecDepth 100000 in
set_option maxHeartbeats 1000000 in
theorem rblock (w : World) (p : Nat) (S : Nat → Prop) (m : Mem) (B : Nat) (out : List Ltr) (h : RMem w p S B m out) (n : Nat) :
    Calls Tryz.prog 56 #[.pointer (some ⟨p, 0, none⟩), .int .u64 n] w fun e w' => e = .returned (.tuple #[.agg ((m.block n).getD Blk.zero).cells.toArray, .bool (m.block n).isSome]) ∧ Below w.heap.size w w' := by
  obtain ⟨vb, vv, ve, vp, vl, vq, vo, h, _⟩ := h
  have hr : Row w S 105 9 vb m.blocks.length (m.blocks.flatMap kcells) := h.row 0 _ _ _ rfl rfl rfl
  have c17 : w.cell? ⟨p, 17, none⟩ = some vb := cell_at h.box 17
  have hp : p < w.heap.size := lt_at h.box
  have hle := hr.le
  clear h
  have d17 : ∀ o, (w.alloc o).cell? ⟨p, 17, none⟩ = some vb := fun o => by rw [World.cell?_of_block (Below.heap_alloc w o p hp)]; exact c17
  rcases hr.shape with ⟨rfl, h0, _⟩ | ⟨g, off, cap, rfl, _, hg, hcap⟩
  · have hnil : m.blocks = [] := List.eq_nil_of_length_eq_zero h0
    have HN : Hid (m.block n = none) := by unfold Mem.block; rw [hnil]; rfl
    clear hnil h0 hr
    go_enter Tryz.func56, Tryz.ntmps56
    go_wp2
    go_loop [6] (fun i => i = .int .i64 0) (fun _ => 0)
    case atStart => rfl
    case round =>
      subst hrel
      go_wp2
      refine bodyPost_ret (v := .tuple #[.agg Blk.zero.cells.toArray, .bool false]) (by simp [results, Tryz.results56, go_sem]; rfl) rfl ?_
      rw [HN.out]
      exact ⟨rfl, by repeat (first | exact (Below.refl _ _).alloc (Nat.le_refl _) _ | refine Below.setCell ?_ (by simp) _)⟩
  · have hel : ∀ (k : Nat) (hk : k < m.blocks.length), w.rangeAt g (off + k * 9) (kcells m.blocks[k]) := fun k hk => hr.elemAt kcells_len k hk
    have HEL : Hid (∀ (k : Nat) (hk : k < m.blocks.length), w.rangeAt g (off + k * 9) (kcells m.blocks[k])) := hel
    clear hel hr
    go_enter Tryz.func56, Tryz.ntmps56
    go_wp2
    go_loop [6] (fun i => ∃ k : Nat, k ≤ m.blocks.length ∧ i = .int .i64 k ∧ ∀ (j : Nat) (hj : j < m.blocks.length), j < k → (m.blocks[j]).1 ≠ n) (fun i => m.blocks.length - (intOf i).toNat)
    case atStart => exact ⟨0, by omega, rfl, fun j hj h => by omega⟩
    case round =>
      obtain ⟨k, hk, rfl, hb⟩ := hrel
      have HB : Hid (∀ (j : Nat) (hj : j < m.blocks.length), j < k → (m.blocks[j]).1 ≠ n) := hb
      clear hb
      by_cases hlt : k < m.blocks.length
      · obtain ⟨⟨u, ⟨bv, ⟨jv, jb, j0, j1, j2, j3⟩, bc⟩⟩, hx⟩ : ∃ x, x = m.blocks[k] := ⟨_, rfl⟩
        have hrg := HEL.out k hlt
        rw [← hx] at hrg
        have HX : Hid ((u, (⟨bv, ⟨jv, jb, j0, j1, j2, j3⟩, bc⟩ : Blk)) = m.blocks[k]) := hx
        clear hx
        have q0 : ∀ o, (w.alloc o).cell? ⟨g, off + k * 9, none⟩ = some (.int .u64 u) := fun o => range_alloc o hg hrg 0 _ rfl
        have HQ : Hid (∀ o, (w.alloc o).rangeAt g (off + k * 9 + 1) [.int .i64 bv, .int .i64 jv, .int .u64 jb, .int .u64 j0, .int .u64 j1, .int .u64 j2, .int .u64 j3, .string bc]) := fun o => mid_of (range_alloc o hg hrg)
        clear hrg
        by_cases hn : u = n
        · have HN : Hid (m.block n = some ⟨bv, ⟨jv, jb, j0, j1, j2, j3⟩, bc⟩) := by
            have := find_hit n m.blocks k hlt HB.out (by rw [← HX.out]; exact hn)
            rw [← HX.out] at this
            exact this
          subst hn
          go_wp2_with (refine wpList_load_mid rfl 41 _ rfl g (off + k * 9 + 1) rfl [.int .i64 bv, .int .i64 jv, .int .u64 jb, .int .u64 j0, .int .u64 j1, .int .u64 j2, .int .u64 j3, .string bc] _ (HQ.out _) Tryz.underlying41 rfl blk_size ?_)
          refine bodyPost_ret (v := .tuple #[.agg (Blk.cells ⟨bv, ⟨jv, jb, j0, j1, j2, j3⟩, bc⟩).toArray, .bool true]) (by simp [results, Tryz.results56, go_sem]; rfl) rfl ?_
          rw [HN.out]
          exact ⟨rfl, by repeat (first | exact (Below.refl _ _).alloc (Nat.le_refl _) _ | refine Below.setCell ?_ (by simp) _)⟩
        · go_wp2
          go_round
          case rel => exact ⟨k + 1, by omega, by go_num, fun j hj hjk => by
            by_cases hj' : j < k
            · exact HB.out j hj hj'
            · have hjk' : j = k := by omega
              subst hjk'
              rw [← HX.out]; exact hn⟩
          case measure => simp [intOf]; omega
      · have hkl : k = m.blocks.length := by omega
        have HN : Hid (m.block n = none) := find_miss n m.blocks (fun j hj => HB.out j hj (by omega))
        go_wp2
        refine bodyPost_ret (v := .tuple #[.agg Blk.zero.cells.toArray, .bool false]) (by simp [results, Tryz.results56, go_sem]; rfl) rfl ?_
        rw [HN.out]
        exact ⟨rfl, by repeat (first | exact (Below.refl _ _).alloc (Nat.le_refl _) _ | refine Below.setCell ?_ (by simp) _)⟩
end Go.Proofs.YtkehpnobidendaaGreatDoor
