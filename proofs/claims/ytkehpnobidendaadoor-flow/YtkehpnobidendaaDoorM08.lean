/- The document's member: a block is known from now on (knows); a message goes out (sends). The document's member: a message goes out (sends). The document's member: Log. The document's member: what is counted, and taken of its queue, when a call ends. -/
import Derived.Test.YtkehpnobidendaaDoorM07
import Derived.Deep.RegionLaw
namespace Go.Proofs.YtkehpnobidendaaDoor
open Go.RowKit

/-- What the reading says of a certificate, a block: numbers within their kinds, a text of a length that Go takes. -/
structure Crt.Ok (c : Crt) : Prop where
  v0 : -9223372036854775808 ≤ c.view
  v1 : c.view ≤ 9223372036854775807
  b1 : c.block < 18446744073709551616
structure Blk.Ok (b : Blk) : Prop where
  v0 : -9223372036854775808 ≤ b.view
  v1 : b.view ≤ 9223372036854775807
  j : b.just.Ok
  c1 : b.cmd.size ≤ 140737488351232
theorem box_below {w w1 : World} {C : Array Value} {T : TypeId} {p : Nat} (h : w.heap[p]? = some (.cells C T (0, 0))) (hb : Below w.heap.size w w1) : w1.heap[p]? = some (.cells C T (0, 0)) := (hb.block p (lt_at h)).trans h

/-- The cells of a new block, as a slice's. -/
theorem new_cells (w : World) (cs : List Value) (t : TypeId) {C : Array Value} (h : C = cs.toArray) : ∀ (j : Nat) u, cs[j]? = some u → (w.alloc (.cells C t)).cell? ((⟨w.heap.size, 0, none⟩ : Addr).add j) = some u := by
  intro j u hj
  subst h
  rw [Addr.add_lit, World.cell?_alloc_new]
  simpa using hj

end Go.Proofs.YtkehpnobidendaaDoor

namespace Go.Proofs.YtkehpnobidendaaDoor
open Go.RowKit

theorem load_msg (a : Addr) : loadVar 40 a = rowVar 40 a := rfl
theorem msg_size : (Tryd.prog.info? 40).map (·.size) = some 19 := by kernel_rfl
attribute [local go_sem ↓] load_msg

end Go.Proofs.YtkehpnobidendaaDoor

namespace Go.Proofs.YtkehpnobidendaaDoor
open Go.RowKit

theorem scells_len (s : ByteArray) : (scells s).length = 1 := rfl
theorem ncells_len (s : Nat) : (ncells s).length = 1 := rfl
theorem icells_len (s : Int) : (icells s).length = 1 := rfl
theorem take_flat {α β : Type} (f : α → List β) (l : List α) (k : Nat) (h : k < l.length) : (l.take (k + 1)).flatMap f = (l.take k).flatMap f ++ f l[k] := by
  rw [List.take_succ_eq_append_getElem h, List.flatMap_append]; simp

theorem one_cell2 {w : World} {o : Obj} {x : Value} {t : TypeId} : ∀ (j : Nat) u, [x][j]? = some u → ((w.alloc o).alloc (.cells #[x] t)).cell? ((⟨w.heap.size + 1, 0, none⟩ : Addr).add j) = some u := by
  have h : (w.alloc o).heap.size = w.heap.size + 1 := by simp
  rw [← h]
  exact one_cell

end Go.Proofs.YtkehpnobidendaaDoor

namespace Go.Proofs.YtkehpnobidendaaDoor
open Go.RowKit

theorem tkcells_len (t : Tk) : (Tk.cells t).length = 4 := rfl
/-- May it, as far as k proposals say? -/
def mayUp (m : Mem) (k : Nat) : Bool := (m.view % 4 == m.id) && !(m.proposed.take k).contains m.view
/-- How many of the first k Enters are for its view. -/
def entUp (m : Mem) (k : Nat) : Nat := ((m.enters.take k).filter (fun t => t.view == m.view)).length
theorem mayUp_succ (m : Mem) (k : Nat) (h : k < m.proposed.length) : mayUp m (k + 1) = (mayUp m k && (m.proposed[k] != m.view)) := by
  unfold mayUp
  rw [List.take_succ_eq_append_getElem h, List.contains_eq_any_beq, List.contains_eq_any_beq, List.any_append]
  simp only [List.any_cons, List.any_nil, Bool.or_false, Bool.not_or, Bool.and_assoc]
  congr 2
  rw [bne, Bool.beq_comm]
theorem entUp_succ (m : Mem) (k : Nat) (h : k < m.enters.length) : entUp m (k + 1) = entUp m k + (if m.enters[k].view == m.view then 1 else 0) := by
  unfold entUp
  rw [List.take_succ_eq_append_getElem h, List.filter_append, List.length_append]
  congr 1
  by_cases hv : (m.enters[k].view == m.view) = true <;> simp [hv]
theorem entUp_le (m : Mem) (k : Nat) : entUp m k ≤ k := Nat.le_trans (List.length_filter_le _ _) (by simp; omega)
theorem may_is (m : Mem) : m.may = (mayUp m m.proposed.length && (m.high.view == m.view - 1 || decide (3 ≤ entUp m m.enters.length))) := by
  unfold Mem.may mayUp entUp
  rw [List.take_length, List.take_length]

/-- A slice without its first element. -/
theorem Row.tail {w : World} {S : Nat → Prop} {e : TypeId} {g off n cap : Nat} {xs : List Value} (h : Row w S e 1 (.slice (some ⟨g, off, none⟩) n cap) n xs) (h0 : 0 < n) : Row w (fun k => k = g) e 1 (.slice (some ⟨g, off + 1, none⟩) (n - 1) (cap - 1)) (n - 1) xs.tail := by
  have hl := h.len
  rcases h.val with ⟨h1, _⟩ | ⟨g', off', cap', cur, hv, hS, hg, hnc, hm, hs, hx⟩
  · cases h1
  · cases hv
    refine ⟨by simp; omega, .inr ⟨g, off + 1, cap - 1, cur, rfl, rfl, hg, by omega, by simp only [maxLen] at *; omega, by omega, ?_⟩⟩
    rw [← hx, ← List.drop_one, ← List.drop_drop, List.drop_take]
    congr 1; omega
theorem Row.tail1 {w : World} {S : Nat → Prop} {e : TypeId} {g off n : Nat} {xs : List Value} (h : Row w S e 1 (.slice (some ⟨g, off, none⟩) n 1) n xs) (h0 : 0 < n) : Row w (fun k => k = g) e 1 (.slice (some ⟨g, off, none⟩) (n - 1) 0) (n - 1) xs.tail := by
  have hl := h.len
  rcases h.val with ⟨h1, _⟩ | ⟨g', off', cap', cur, hv, hS, hg, hnc, hm, hs, hx⟩
  · cases h1
  · cases hv
    have hn : n = 1 := by omega
    subst hn
    refine ⟨by simp; omega, .inr ⟨g, off, 0, cur, rfl, rfl, hg, by omega, by simp only [maxLen]; omega, by omega, ?_⟩⟩
    have : xs.tail = [] := List.eq_nil_of_length_eq_zero (by simp; omega)
    rw [this]; simp
theorem flat_tail (l : List ByteArray) : (l.flatMap scells).tail = l.tail.flatMap scells := by cases l <;> simp [scells]
/-- The member without the first command of its queue. -/
def Mem.deq (m : Mem) : Mem := { m with queue := m.queue.tail }
/-- The cells of the block that it proposes. -/
def nextCells (m : Mem) : Array Value := #[.int .i64 m.view, .int .i64 m.high.view, .int .u64 m.high.block, .int .u64 m.high.s0, .int .u64 m.high.s1, .int .u64 m.high.s2, .int .u64 m.high.s3, .string (m.queue.headD ⟨#[]⟩)]
theorem nextCells_is (m : Mem) : nextCells m = m.next.cells.toArray := rfl

end Go.Proofs.YtkehpnobidendaaDoor
