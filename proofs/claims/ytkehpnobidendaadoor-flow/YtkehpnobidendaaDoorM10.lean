/- The document's Tick. -/
import Derived.Test.YtkehpnobidendaaDoorM09
import Derived.Deep.RegionHeld3
import Derived.Deep.DrawnRows
import Derived.Deep.QuietTactic
import Derived.BigQuiet
namespace Go.Proofs.YtkehpnobidendaaDoor
open Go.RowKit
attribute [local go_sem ↓] Go.wp_at_zero Go.wp_at_succ

theorem kp2 {W w1 : World} {p : Nat} {a b : Value} (hb : Below W.heap.size W w1) (h : p < W.heap.size ∧ W.cell? ⟨p, 0, none⟩ = some a ∧ W.cell? ⟨p, 2, none⟩ = some b) : p < w1.heap.size ∧ w1.cell? ⟨p, 0, none⟩ = some a ∧ w1.cell? ⟨p, 2, none⟩ = some b :=
  ⟨Nat.lt_of_lt_of_le h.1 hb.size, by rw [hb.cell h.1]; exact h.2.1, by rw [hb.cell h.1]; exact h.2.2⟩
/-- What the walk reads of the member. -/
structure RSee (w : World) (p : Nat) (m : Mem) : Prop where
  lt : p < w.heap.size
  c0 : w.cell? ⟨p, 0, none⟩ = some (.int .i64 m.id)
  c1 : w.cell? ⟨p, 1, none⟩ = some (.int .i64 m.patience)
  c2 : w.cell? ⟨p, 2, none⟩ = some (.int .i64 m.view)
  c3 : w.cell? ⟨p, 3, none⟩ = some (.int .i64 m.voted)
  c4 : w.cell? ⟨p, 4, none⟩ = some (.int .i64 m.waited)
  c5 : w.cell? ⟨p, 5, none⟩ = some (.int .i64 m.high.view)
  c6 : w.cell? ⟨p, 6, none⟩ = some (.int .u64 m.high.block)
  c7 : w.cell? ⟨p, 7, none⟩ = some (.int .u64 m.high.s0)
  c8 : w.cell? ⟨p, 8, none⟩ = some (.int .u64 m.high.s1)
  c9 : w.cell? ⟨p, 9, none⟩ = some (.int .u64 m.high.s2)
  c10 : w.cell? ⟨p, 10, none⟩ = some (.int .u64 m.high.s3)
  fz : ∀ i, w.frozen? ⟨p, i, none⟩ = false
/-- The Enter that it sends. -/
def entMsg (v : Int) (c : Crt) (fro sl : Int) : Msg := ⟨3, fro, v, ⟨0, ⟨0, 0, 0, 0, 0, 0⟩, ⟨#[]⟩⟩, 0, c, sl⟩
theorem enterLtr_is (m : Mem) (v : Int) : (({ m with waited := m.waited + 1 } : Mem).enter v).enterLtr = ⟨v % 4, entMsg v m.high m.id (sealOf m.id 3 v 0)⟩ := rfl
theorem tick_yes {m : Mem} (h : m.patience ≤ m.waited + 1) (hv : m.view < 1000) : m.tick = ((({ m with waited := m.waited + 1 } : Mem).enter (m.view + 1)).ends.1, [(({ m with waited := m.waited + 1 } : Mem).enter (m.view + 1)).enterLtr] ++ (({ m with waited := m.waited + 1 } : Mem).enter (m.view + 1)).ends.2) := by
  have e : m.wait = (({ m with waited := m.waited + 1 } : Mem).enter (m.view + 1), [(({ m with waited := m.waited + 1 } : Mem).enter (m.view + 1)).enterLtr]) := by
    unfold Mem.wait; exact if_pos ⟨h, hv⟩
  unfold Mem.tick; rw [e]
theorem tick_no {m : Mem} (h : ¬ (m.patience ≤ m.waited + 1 ∧ m.view < 1000)) : m.tick = (({ m with waited := m.waited + 1 } : Mem).ends.1, [] ++ ({ m with waited := m.waited + 1 } : Mem).ends.2) := by
  have e : m.wait = ({ m with waited := m.waited + 1 }, []) := by
    unfold Mem.wait; exact if_neg h
  unfold Mem.tick; rw [e]
theorem Fr.drewN (S : Nat → Prop) (w : World) (n : Nat) : Fr S w (w.drewN n) := ⟨rfl, rfl, rfl, Nat.le_refl _, fun _ _ _ => rfl⟩

end Go.Proofs.YtkehpnobidendaaDoor
