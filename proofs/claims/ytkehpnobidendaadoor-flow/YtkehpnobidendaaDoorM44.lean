/- parleykeep's pick. -/
import Derived.Test.YtkehpnobidendaaDoorM35
namespace Go.Proofs.YtkehpnobidendaaDoor
open Go.RowKit

theorem kpick (c : Int) (n : Nat) (c0 : -9223372036854775808 ≤ c) (c1 : c ≤ 9223372036854775807) (hn : 0 < n) (hn1 : n ≤ 9223372036854775807) (w : World) :
    Calls Tryd.prog 13 #[.int .i64 c, .int .i64 n] w fun e w' => e = .returned (.int .i64 (pickN c n)) ∧ w' = w := by
  have hni : (n : Int) ≠ 0 := by omega
  have hnp : (0 : Int) < (n : Int) := by omega
  by_cases h : c < 0
  · have HP : Hid (((pickN c n : Nat) : Int) = (-(c + 1)) % n) := by have := pickN_cast c n hn; rw [if_pos h] at this; exact this
    go_enter Tryd.func13, Tryd.ntmps13
    go_wp2
    go_ret
    refine ⟨?_, rfl⟩
    show Ending.returned (.int .i64 (-(c + 1).tmod n)) = _
    rw [HP.out, ← Int.neg_tmod, Int.tmod_eq_emod_of_nonneg (by omega)]
  · have HP : Hid (((pickN c n : Nat) : Int) = c % n) := by have := pickN_cast c n hn; rw [if_neg h] at this; exact this
    go_enter Tryd.func13, Tryd.ntmps13
    go_wp2
    go_ret
    rw [HP.out]
    exact ⟨rfl, rfl⟩
end Go.Proofs.YtkehpnobidendaaDoor
