/- The document's member in memory (RMem), and its small calls: New, enter, Submit. The document's member: New; the block of a number (block). -/
import Derived.Test.YtkehpnobidendaaDoorM05
import Derived.Test.YtkehpnobidendaaDoorM06
namespace Go.Proofs.YtkehpnobidendaaDoor
open Go.RowKit

/-- The cells of a certificate, a block, a message, a letter, a vote, a known block. -/
def Crt.cells (c : Crt) : List Value := [.int .i64 c.view, .int .u64 c.block, .int .u64 c.s0, .int .u64 c.s1, .int .u64 c.s2, .int .u64 c.s3]
def Blk.cells (b : Blk) : List Value := [.int .i64 b.view, .int .i64 b.just.view, .int .u64 b.just.block, .int .u64 b.just.s0, .int .u64 b.just.s1, .int .u64 b.just.s2, .int .u64 b.just.s3, .string b.cmd]
def Msg.cells (x : Msg) : List Value := [.int .i64 x.kind, .int .i64 x.fro, .int .i64 x.view, .int .i64 x.block.view, .int .i64 x.block.just.view, .int .u64 x.block.just.block, .int .u64 x.block.just.s0, .int .u64 x.block.just.s1, .int .u64 x.block.just.s2, .int .u64 x.block.just.s3, .string x.block.cmd, .int .u64 x.number, .int .i64 x.cert.view, .int .u64 x.cert.block, .int .u64 x.cert.s0, .int .u64 x.cert.s1, .int .u64 x.cert.s2, .int .u64 x.cert.s3, .int .u64 x.sl]
def Ltr.cells (l : Ltr) : List Value := .int .i64 l.to :: l.msg.cells
def Tk.cells (t : Tk) : List Value := [.int .i64 t.fro, .int .i64 t.view, .int .u64 t.n, .int .u64 t.sl]
def kcells (x : Nat × Blk) : List Value := .int .u64 x.1 :: x.2.cells
def icells (i : Int) : List Value := [.int .i64 i]
def ncells (n : Nat) : List Value := [.int .u64 n]
def scells (s : ByteArray) : List Value := [.string s]

/-- The cells of the document's member. -/
def rcells (m : Mem) (vb vv ve vp vl vq vo : Value) : Array Value :=
  #[.int .i64 m.id, .int .i64 m.patience, .int .i64 m.view, .int .i64 m.voted, .int .i64 m.waited,
    .int .i64 m.high.view, .int .u64 m.high.block, .int .u64 m.high.s0, .int .u64 m.high.s1, .int .u64 m.high.s2, .int .u64 m.high.s3,
    .int .i64 m.locked.view, .int .u64 m.locked.block, .int .u64 m.locked.s0, .int .u64 m.locked.s1, .int .u64 m.locked.s2, .int .u64 m.locked.s3,
    vb, vv, ve, vp, vl, vq, vo]
def rX (m : Mem) (out : List Ltr) : List (Nat × List Value) :=
  [(m.blocks.length, m.blocks.flatMap kcells), (m.votes.length, m.votes.flatMap Tk.cells), (m.enters.length, m.enters.flatMap Tk.cells), (m.proposed.length, m.proposed.flatMap icells), (m.log.length, m.log.flatMap ncells), (m.queue.length, m.queue.flatMap scells), (out.length, out.flatMap Ltr.cells)]
theorem info_int : (Tryd.prog.info? 3).map (fun i => (i.zero, i.size, i.bytes)) = some (some (.int .i64 0), 1, 8) := by kernel_rfl
theorem info_u64 : (Tryd.prog.info? 22).map (fun i => (i.zero, i.size, i.bytes)) = some (some (.int .u64 0), 1, 8) := by kernel_rfl
theorem info_string : (Tryd.prog.info? 9).map (fun i => (i.zero, i.size, i.bytes)) = some (some (.string ⟨#[]⟩), 1, 16) := by kernel_rfl
theorem info_letter : (Tryd.prog.info? 42).map (fun i => (i.zero, i.size, i.bytes)) = some (some (.agg (Ltr.cells ⟨0, Msg.zero⟩).toArray), 20, 168) := by kernel_rfl

theorem one_cell {w : World} {x : Value} {t : TypeId} : ∀ (j : Nat) u, [x][j]? = some u → (w.alloc (.cells #[x] t)).cell? ((⟨w.heap.size, 0, none⟩ : Addr).add j) = some u := by
  intro j u hj
  match j, hj with
  | 0, hj => simp at hj; subst hj; simp [Addr.add]

end Go.Proofs.YtkehpnobidendaaDoor

namespace Go.Proofs.YtkehpnobidendaaDoor
open Go.RowKit

theorem Row.le {w : World} {S : Nat → Prop} {e : TypeId} {size : Nat} {v : Value} {n : Nat} {xs : List Value} (h : Row w S e size v n xs) : n ≤ 9223372036854775807 := by
  rcases h.val with ⟨_, rfl⟩ | ⟨g, off, cap, cur, _, _, _, h1, h2, _⟩
  · omega
  · simp only [maxLen] at h2; omega
theorem find_hit (n : Nat) : ∀ (l : List (Nat × Blk)) (k : Nat) (hk : k < l.length), (∀ (j : Nat) (hj : j < l.length), j < k → (l[j]).1 ≠ n) → (l[k]).1 = n → find n l = some (l[k]).2
  | (a, b) :: r, 0, _, _, h => by simp at h; simp [find, h]
  | (a, b) :: r, k + 1, hk, hb, h => by
    have h0 := hb 0 (by simp) (by omega)
    simp at h0
    simp only [find, if_neg h0, List.getElem_cons_succ]
    exact find_hit n r k (by simpa using hk) (fun j hj hjk => by have := hb (j + 1) (by simpa using hj) (by omega); simpa using this) (by simpa using h)
theorem find_miss (n : Nat) : ∀ (l : List (Nat × Blk)), (∀ (j : Nat) (hj : j < l.length), (l[j]).1 ≠ n) → find n l = none
  | [], _ => rfl
  | (a, b) :: r, hb => by
    have h0 := hb 0 (by simp)
    simp at h0
    simp only [find, if_neg h0]
    exact find_miss n r (fun j hj => by have := hb (j + 1) (by simpa using hj); simpa using this)
theorem kcells_len (x : Nat × Blk) : (kcells x).length = 9 := rfl
theorem blk_size : (Tryd.prog.info? 38).map (·.size) = some 8 := by kernel_rfl
theorem mid_of {w : World} {g o : Nat} {x : Nat × Blk} (h : w.rangeAt g o (kcells x)) : w.rangeAt g (o + 1) x.2.cells := fun j v hv => by
  have := h (j + 1) v (by simpa [kcells] using hv)
  rw [Nat.add_assoc, Nat.add_comm 1 j]; exact this
theorem range_alloc {w : World} {g o : Nat} {cs : List Value} (ob : Obj) (hg : g < w.heap.size) (h : w.rangeAt g o cs) : (w.alloc ob).rangeAt g o cs := fun j v hv => by
  rw [World.cell?_of_block (Below.heap_alloc w ob g hg)]; exact h j v hv

theorem Row.place {w : World} {S : Nat → Prop} {e : TypeId} {size : Nat} {a : Option Addr} {n cap : Nat} {xs : List Value} (h : Row w S e size (.slice a n cap) n xs) (hn : 0 < n) : ∃ g off, a = some ⟨g, off, none⟩ ∧ S g ∧ g < w.heap.size ∧ n ≤ cap := by
  rcases h.shape with ⟨_, h0, _⟩ | ⟨g, off, cap', hv, hS, hg, hc⟩
  · omega
  · cases hv; exact ⟨g, off, rfl, hS, hg, hc⟩

end Go.Proofs.YtkehpnobidendaaDoor
