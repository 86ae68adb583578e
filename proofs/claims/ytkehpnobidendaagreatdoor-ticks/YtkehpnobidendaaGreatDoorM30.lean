/- The law Ticks over no script, and the law's door itself. -/
import Derived.Test.YtkehpnobidendaaGreatDoorM29
namespace Go.Proofs.YtkehpnobidendaaGreatDoor
open Go.RowKit

set_option maxRecDepth 100000 in
set_option maxHeartbeats 2000000 in
theorem playedTicks0 (a : Option Addr) (cap : Nat) (w : World) (ht : Tab w) :
    Calls Tryz.prog 6 #[.slice a 0 cap, .int .i64 10] w fun e w' => e = .returned (.bool true) ∧ Below w.heap.size w w' := by
  have HST := sit_start w ht
  have HS0 : Hid (Goes w (w.alloc (.cells #[.slice none 0 0, .slice none 0 0, .slice none 0 0, .bool false, .slice none 0 0, .slice none 0 0, .slice none 0 0, .slice none 0 0, .int .i64 0] 34)) w.heap.size 0) := HST
  clear HST ht
  go_enter Tryz.func6, Tryz.ntmps6
  go_wp2
  go_loopw [6, 7] (fun ok k wr => ∃ j : Nat, j ≤ 4 ∧ ok = .bool true ∧ k = .int .i64 j ∧ Hid (Goes w wr w.heap.size j)) (fun _ k _ => 4 - (intOf k).toNat)
  case atStart => exact ⟨0, by omega, rfl, rfl, HS0.out⟩
  case round =>
  obtain ⟨j, h4, rfl, rfl, hW⟩ := hrel
  by_cases hlt : j < 4
  · go_wp2_with (go_at_call 7; refine (stepNew _ (by omega) (by omega) hW.out (by omega)).mono ?_; rintro e w1 ⟨rfl, hb⟩)
    go_roundw
    case rel => exact ⟨j + 1, by omega, rfl, by go_num, hb⟩
    case measure => simp [intOf]; omega
  · go_wp2
    have HW4 : Hid (∃ m, m ≤ 4 ∧ Goes w _ w.heap.size m) := ⟨j, h4, hW.out⟩
    clear h4 hlt HS0 hW
    go_loopw [6, 8] (fun ok k wr => ∃ j n : Nat, 1 ≤ j ∧ j ≤ 11 ∧ n ≤ j + 3 ∧ ok = .bool true ∧ k = .int .i64 j ∧ Hid (Goes w wr w.heap.size n)) (fun _ k _ => 11 - (intOf k).toNat)
    case atStart =>
      obtain ⟨m, hm, hG⟩ := HW4.out
      exact ⟨1, m, by omega, by omega, by omega, rfl, rfl, hG⟩
    case round =>
    clear HW4
    obtain ⟨j, n, h1, h11, hn, rfl, rfl, hW⟩ := hrel
    by_cases hlt : j < 11
    · by_cases h4 : j = 4
      · subst h4
        go_wp2
        go_roundw
        case rel => exact ⟨5, n, by omega, by omega, by omega, rfl, rfl, hW⟩
        case measure => simp [intOf]
      · have h4b : ((j : Int) != 4) = true := by simp; omega
        go_wp2_with (go_at_call 7; refine (stepFirst2 _ (by omega) (by omega) hW.out (by omega)).mono ?_; rintro e w1 ⟨rfl, hb⟩)
        go_roundw
        case rel => exact ⟨j + 1, n + 1, by omega, by omega, by omega, rfl, by go_num, hb⟩
        case measure => simp [intOf]; omega
    · go_wp2
      clear h1 h11 hlt hn
      have HWn : Hid (∃ m, Goes w _ w.heap.size m) := ⟨n, hW.out⟩
      clear hW
      go_loopw [6, 9] (fun ok i wr => ok = .bool true ∧ i = .int .i64 0 ∧ Hid (∃ m, Goes w wr w.heap.size m)) (fun _ _ _ => 0)
      case atStart => exact ⟨rfl, rfl, HWn⟩
      case round =>
      clear HWn
      obtain ⟨rfl, rfl, hW⟩ := hrel
      obtain ⟨ov, c3⟩ : ∃ ov, wr.cell? ⟨w.heap.size, 3, none⟩ = some (.bool ov) := by
        obtain ⟨m, hG⟩ := hW.out
        exact hG.over
      have HB : Hid (Below w.heap.size w wr) := by
        obtain ⟨m, hG⟩ := hW.out
        exact hG.below
      rcases ov with _ | _
      · go_wp2
        go_ret
        exact ⟨rfl, HB.out⟩
      · go_wp2
        go_ret
        exact ⟨rfl, HB.out⟩
theorem ticksSome (bs off len cap : Nat) (O : Nat → OpD) (hO : ∀ j, j < len → (O j).Ok) (hl : len ≤ 659000000000) (w : World) (hbs : bs < w.heap.size)
    (hc : ∀ j, j < len → w.rangeAt bs (off + j * 25) (O j).cells.toList) (htab : Lib.TabIs Tryz.prog w "internal/strconv.uint64pow10" .u64 Lib.pow10Tab) :
    Calls Tryz.prog 4 #[.slice (some ⟨bs, off, none⟩) len cap] w fun e w' => e = .returned (.bool true) ∧ Below w.heap.size w w' := by
  have hp := playedTicks bs off len cap O hO hl w hbs hc ⟨htab⟩
  clear hO hc htab
  go_enter Tryz.func4, Tryz.ntmps4
  go_wp2_with (go_at_call 6; refine hp.mono ?_; rintro e w1 ⟨rfl, hb⟩)
  go_ret
  exact ⟨rfl, hb⟩
theorem ticksNil (a : Option Addr) (cap : Nat) (w : World) (htab : Lib.TabIs Tryz.prog w "internal/strconv.uint64pow10" .u64 Lib.pow10Tab) :
    Calls Tryz.prog 4 #[.slice a 0 cap] w fun e w' => e = .returned (.bool true) ∧ Below w.heap.size w w' := by
  have hp := playedTicks0 a cap w ⟨htab⟩
  clear htab
  go_enter Tryz.func4, Tryz.ntmps4
  go_wp2_with (go_at_call 6; refine hp.mono ?_; rintro e w1 ⟨rfl, hb⟩)
  go_ret
  exact ⟨rfl, hb⟩
end Go.Proofs.YtkehpnobidendaaGreatDoor
