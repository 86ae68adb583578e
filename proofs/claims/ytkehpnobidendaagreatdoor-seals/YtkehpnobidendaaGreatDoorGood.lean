/- Good, the program's and the document's: at every certificate the same answer. -/
import Derived.Test.YtkehpnobidendaaGreatDoorCount
namespace Go.Proofs.YtkehpnobidendaaGreatDoor
open Go.RowKit

/-- Is it the first certificate? -/
def firstB (v : Int) (b : Nat) (s0 s1 s2 s3 : Int) : Bool := v == 0 && b == 0 && (s0 == 0 && s1 == 0 && s2 == 0 && s3 == 0)
/-- Is it good? -/
def goodB (v : Int) (b : Nat) (s0 s1 s2 s3 : Int) : Bool := firstB v b s0 s1 s2 s3 || decide ((3 : Int) ≤ (cnt v b s0 s1 s2 s3 4 : Int))

theorem eq_arr (a0 a1 a2 a3 b0 b1 b2 b3 : Int) (w : World) : (Op.equalIn 9999 37 (.agg #[.int .u64 a0, .int .u64 a1, .int .u64 a2, .int .u64 a3]) (.agg #[.int .u64 b0, .int .u64 b1, .int .u64 b2, .int .u64 b3])).run Tryz.prog w = .ok (a0 == b0 && a1 == b1 && a2 == b2 && a3 == b3) w := by
  have uu := Tryz.underlying36
  have ua := Tryz.isAgg36
  have uz := Tryz.sizeOf36
  rw [show (9999 : Nat) = 9998 + 1 from rfl, Op.equalIn]
  simp only [Sem.run_bind, run_underlying Tryz.underlying37, Result.andThen_ok]
  simp only [Std.Legacy.Range.forIn_eq_forIn_range', Std.Legacy.Range.size, Nat.sub_zero, Nat.add_sub_cancel, Nat.div_one, List.range'_succ, List.range'_zero, List.forIn_cons, List.forIn_nil]
  go_simp
  by_cases h0 : a0 = b0 <;> by_cases h1 : a1 = b1 <;> by_cases h2 : a2 = b2 <;> by_cases h3 : a3 = b3 <;> simp [h0, h1, h2, h3]

theorem good_first {v : Int} {b : Nat} {s0 s1 s2 s3 : Int} (h : firstB v b s0 s1 s2 s3 = true) : goodB v b s0 s1 s2 s3 = true := by unfold goodB; rw [h]; rfl
theorem good_not {v : Int} {b : Nat} {s0 s1 s2 s3 : Int} (h : firstB v b s0 s1 s2 s3 = false) : goodB v b s0 s1 s2 s3 = decide ((3 : Int) ≤ (cnt v b s0 s1 s2 s3 4 : Int)) := by unfold goodB; rw [h]; rfl

set_option maxRecDepth 100000 in
set_option maxHeartbeats 1000000 in
theorem pgood (v : Int) (b : Nat) (s0 s1 s2 s3 : Int) (v0 : -9223372036854775808 ≤ v) (v1 : v ≤ 9223372036854775807) (hu : b < 18446744073709551616) (w : World)
    (htab : Lib.TabIs Tryz.prog w "internal/strconv.uint64pow10" .u64 Lib.pow10Tab) :
    Calls Tryz.prog 29 #[.agg #[.int .i64 v, .int .u64 b, .int .u64 s0, .int .u64 s1, .int .u64 s2, .int .u64 s3]] w fun e w' => e = .returned (.bool (goodB v b s0 s1 s2 s3)) ∧ Below w.heap.size w w' := by
  have hle := cnt_le v b s0 s1 s2 s3 4
  have htr := fun o => tabIs_below htab (below_alloc w o)
  have hr := prights v b s0 s1 s2 s3 v0 v1 hu _ (htr (.cells #[.int .i64 v, .int .u64 b, .int .u64 s0, .int .u64 s1, .int .u64 s2, .int .u64 s3] 39))
  obtain ⟨F, hF⟩ : ∃ F, F = (s0 == 0 && s1 == 0 && s2 == 0 && s3 == 0) := ⟨_, rfl⟩
  have hq : ∀ W, (Op.equalIn 9999 37 (.agg #[.int .u64 s0, .int .u64 s1, .int .u64 s2, .int .u64 s3]) (.agg #[.int .u64 0, .int .u64 0, .int .u64 0, .int .u64 0])).run Tryz.prog W = .ok F W := fun W => by rw [hF]; exact eq_arr _ _ _ _ _ _ _ _ W
  have HF : Hid (F = (s0 == 0 && s1 == 0 && s2 == 0 && s3 == 0)) := hF
  clear hF htr
  by_cases hv : v = 0
  · by_cases hbz : b = 0
    · rcases Bool.eq_false_or_eq_true F with hT | hT
      · subst hT
        have HG : Hid (goodB v b s0 s1 s2 s3 = true) := good_first (by unfold firstB; rw [← HF.out, hv, hbz]; rfl)
        clear hr
        go_enter Tryz.func29, Tryz.ntmps29
        go_wp2_with fail
        go_ret
        exact ⟨by rw [HG.out]; rfl, below_alloc _ _⟩
      · subst hT
        have HG : Hid (goodB v b s0 s1 s2 s3 = decide ((3 : Int) ≤ (cnt v b s0 s1 s2 s3 4 : Int))) := good_not (by unfold firstB; rw [← HF.out]; simp)
        subst hv
        subst hbz
        go_enter Tryz.func29, Tryz.ntmps29
        go_wp2_with (go_at_call 53; refine hr.mono ?_; rintro e w1 ⟨rfl, hb⟩)
        go_ret
        exact ⟨by rw [HG.out]; rfl, bnext (below_alloc _ _) hb⟩
    · have HG : Hid (goodB v b s0 s1 s2 s3 = decide ((3 : Int) ≤ (cnt v b s0 s1 s2 s3 4 : Int))) := good_not (by unfold firstB; simp [hbz])
      subst hv
      go_enter Tryz.func29, Tryz.ntmps29
      go_wp2_with (go_at_call 53; refine hr.mono ?_; rintro e w1 ⟨rfl, hb⟩)
      go_ret
      exact ⟨by rw [HG.out]; rfl, bnext (below_alloc _ _) hb⟩
  · have HG : Hid (goodB v b s0 s1 s2 s3 = decide ((3 : Int) ≤ (cnt v b s0 s1 s2 s3 4 : Int))) := good_not (by unfold firstB; simp [hv])
    go_enter Tryz.func29, Tryz.ntmps29
    go_wp2_with (go_at_call 53; refine hr.mono ?_; rintro e w1 ⟨rfl, hb⟩)
    go_ret
    exact ⟨by rw [HG.out]; rfl, bnext (below_alloc _ _) hb⟩

end Go.Proofs.YtkehpnobidendaaGreatDoor
