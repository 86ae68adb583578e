/- The document's member: is a block in its log (logged)? is it ahead of another (above)? -/
import Derived.Test.YtkehpnobidendaaDoorM11
import Derived.Deep.LoopGhost
namespace Go.Proofs.YtkehpnobidendaaDoor
open Go.RowKit

theorem contains_take (l : List Nat) (n k : Nat) (hk : k < l.length) (h : (l.take k).contains n = false) : (l.take (k + 1)).contains n = (l[k] == n) := by
  rw [List.take_succ_eq_append_getElem hk]
  simp only [List.contains_eq_any_beq, List.any_append] at h ⊢
  rw [h]
  simp [Bool.beq_comm]

/-- The way up from a block comes to 'old', or to the first block, within so many steps. -/
def Mem.halts (m : Mem) (old : Nat) : Nat → Nat → Prop
  | 0, _ => False
  | f + 1, n => n = old ∨ n = 0 ∨ m.halts old f (m.up n)
theorem up_lt {m : Mem} (h : ∀ x ∈ m.blocks, x.2.just.block < 18446744073709551616) (n : Nat) : m.up n < 18446744073709551616 := by
  unfold Mem.up Mem.block
  have : ∀ l : List (Nat × Blk), (∀ x ∈ l, x.2.just.block < 18446744073709551616) → ((find n l).getD Blk.zero).just.block < 18446744073709551616 := by
    intro l
    induction l with
    | nil => intro _; show (0 : Nat) < 18446744073709551616; omega
    | cons a r ih =>
      intro hl
      obtain ⟨k, b⟩ := a
      simp only [find]
      split
      · exact hl (k, b) (by simp)
      · exact ih (fun x hx => hl x (by simp [hx]))
  exact this _ h

end Go.Proofs.YtkehpnobidendaaDoor
