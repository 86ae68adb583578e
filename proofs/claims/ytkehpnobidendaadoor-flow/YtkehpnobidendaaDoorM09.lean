/- The document's member: a call ends (ends): it proposes, if it may. The document's New: a member, or none. -/
import Derived.Test.YtkehpnobidendaaDoorM08
import Derived.Deep.DeepCutAuto
namespace Go.Proofs.YtkehpnobidendaaDoor
open Go.RowKit

theorem load_blk (a : Addr) : loadVar 38 a = rowVar 38 a := rfl
attribute [local go_sem ↓] load_blk
theorem blk_whole (w : World) (g : Nat) (cs : Array Value) (h : w.heap[g]? = some (.cells cs 38 (0, 0))) (hs : cs.size = 8) : (rowVar 38 ⟨g, 0, none⟩).run Tryd.prog w = .ok (.agg cs) w :=
  rowVar_whole w g _ _ cs _ _ h Tryd.underlying38 rfl (by rw [hs]; exact blk_size)
theorem headD_le {l : List ByteArray} (h : ∀ c ∈ l, c.size ≤ 16) : (l.headD ⟨#[]⟩).size ≤ 140737488351232 := by
  cases l with
  | nil => exact Nat.zero_le _
  | cons a r => have := h a (by simp); simp; omega
theorem knows_id (m : Mem) (b : Blk) : (m.knows b).id = m.id := by unfold Mem.knows; split <;> rfl
/-- The proposal that it sends. -/
def propMsg (v : Int) (b : Blk) (fro sl : Int) : Msg := ⟨1, fro, v, b, 0, ⟨0, 0, 0, 0, 0, 0⟩, sl⟩
/-- The member that has taken a command, and has noted that it proposes. -/
def Mem.noted (m : Mem) : Mem := { m with queue := m.queue.tail, proposed := m.proposed ++ [m.view] }
theorem ends_yes {m : Mem} (h : m.may = true) : m.ends = (m.noted.knows m.next, [⟨-1, propMsg m.view m.next m.id (sealOf m.id 1 m.view m.next.num)⟩]) := by
  unfold Mem.ends; rw [if_pos h]; rfl
theorem ends_no {m : Mem} (h : m.may = false) : m.ends = (m, []) := by
  unfold Mem.ends; rw [if_neg (by rw [h]; decide)]

end Go.Proofs.YtkehpnobidendaaDoor

namespace Go.Proofs.YtkehpnobidendaaDoor
open Go.RowKit

theorem new_cells2 {w : World} {o : Obj} (cs : List Value) (t : TypeId) (C : Array Value) (h : C = cs.toArray) : ∀ (j : Nat) u, cs[j]? = some u → ((w.alloc o).alloc (.cells C t)).cell? ((⟨w.heap.size + 1, 0, none⟩ : Addr).add j) = some u := by
  have e : (w.alloc o).heap.size = w.heap.size + 1 := by simp
  rw [← e]
  exact new_cells _ cs t h
/-- Does New take its arguments? -/
def newOk (a b : Int) : Bool := decide (0 ≤ a ∧ a ≤ 3 ∧ 1 ≤ b ∧ b ≤ 100)
theorem nils {i : Nat} {v : Value} (h : [Value.slice none 0 0, .slice none 0 0, .slice none 0 0, .slice none 0 0, .slice none 0 0, .slice none 0 0, .slice none 0 0][i]? = some v) : v = .slice none 0 0 := by
  have := List.mem_of_getElem? h
  simpa using this
end Go.Proofs.YtkehpnobidendaaDoor
