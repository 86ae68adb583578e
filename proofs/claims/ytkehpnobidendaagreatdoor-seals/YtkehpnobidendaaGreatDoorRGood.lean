/- Good of the document's own answer: at every certificate. -/
import Derived.Test.YtkehpnobidendaaGreatDoorGood
namespace Go.Proofs.YtkehpnobidendaaGreatDoor
open Go.RowKit

set_option maxRecDepth 100000 in
set_option maxHeartbeats 1000000 in
theorem rsame (v : Int) (b : Nat) (s0 s1 s2 s3 : Int) (w : World) :
    Calls Tryz.prog 54 #[.agg #[.int .i64 v, .int .u64 b, .int .u64 s0, .int .u64 s1, .int .u64 s2, .int .u64 s3], .agg #[.int .i64 0, .int .u64 0, .int .u64 0, .int .u64 0, .int .u64 0, .int .u64 0]] w fun e w' => e = .returned (.bool (firstB v b s0 s1 s2 s3)) ∧ Below w.heap.size w w' := by
  go_enter Tryz.func54, Tryz.ntmps54
  go_wp2
  all_goals (go_ret; exact ⟨by simp [firstB, *], bnext (below_alloc _ _) (below_alloc _ _)⟩)

set_option maxRecDepth 100000 in
set_option maxHeartbeats 1000000 in
theorem rgood (v : Int) (b : Nat) (s0 s1 s2 s3 : Int) (v0 : -9223372036854775808 ≤ v) (v1 : v ≤ 9223372036854775807) (hu : b < 18446744073709551616) (w : World) :
    Calls Tryz.prog 30 #[.agg #[.int .i64 v, .int .u64 b, .int .u64 s0, .int .u64 s1, .int .u64 s2, .int .u64 s3]] w fun e w' => e = .returned (.bool (goodB v b s0 s1 s2 s3)) ∧ Below w.heap.size w w' := by
  rcases Bool.eq_false_or_eq_true (firstB v b s0 s1 s2 s3) with hT | hT
  · have HG : Hid (goodB v b s0 s1 s2 s3 = true) := good_first hT
    go_enter Tryz.func30, Tryz.ntmps30
    go_wp2_with (go_at_call 54; refine (rsame v b s0 s1 s2 s3 _).mono ?_; rintro e w1 ⟨rfl, hb⟩)
    go_ret
    exact ⟨by rw [HG.out]; rfl, bnext (below_alloc _ _) hb⟩
  · have HG : Hid (goodB v b s0 s1 s2 s3 = decide ((3 : Int) ≤ (cnt v b s0 s1 s2 s3 4 : Int))) := good_not hT
    go_enter Tryz.func30, Tryz.ntmps30
    go_wp2_with (go_at_call 54; refine (rsame v b s0 s1 s2 s3 _).mono ?_; rintro e w1 ⟨rfl, hb⟩)
    clear hT
    go_loopw [4, 5] (fun n i wr => ∃ k : Nat, k ≤ 4 ∧ i = .int .i64 k ∧ n = .int .i64 (cnt v b s0 s1 s2 s3 k) ∧ Hid (Boxed w wr v b s0 s1 s2 s3)) (fun _ i _ => 4 - (intOf i).toNat)
    case atStart => exact ⟨0, by omega, rfl, rfl, (Boxed.start _ _ _ _ _ _ _ _).next hb⟩
    case round =>
    obtain ⟨k, hk, rfl, rfl, hB⟩ := hrel
    clear hb
    have q0 := hB.out.c0
    have q1 := hB.out.c1
    have hle := cnt_le v b s0 s1 s2 s3 k
    by_cases hlt : k < 4
    · rcases lt4 hlt with rfl | rfl | rfl | rfl
      · have H : Hid (cnt v b s0 s1 s2 s3 1 = cnt v b s0 s1 s2 s3 0 + hit v b 0 s0) := (by show cnt v b s0 s1 s2 s3 1 = cnt v b s0 s1 s2 s3 0 + hit v b 0 s0; simp [cnt])
        have q2 := hB.out.c2
        rcases Bool.eq_false_or_eq_true (s0 == sealOf 0 2 v b) with ht | ht
        · have HH : Hid (hit v b 0 s0 = 1) := hit_yes ht
          go_wp2_with (go_at_call 25; refine (rseal _ _ _ _ (by omega) (by omega) (by omega) (by omega) v0 v1 hu _).mono ?_; rintro e w1 ⟨rfl, hb⟩; have q3 := (hB.out.next hb).c2)
          go_roundw
          case rel => exact ⟨1, by omega, by go_num, by rw [H.out, HH.out]; go_num, hB.out.next hb⟩
          case measure => simp [intOf]
        · have HH : Hid (hit v b 0 s0 = 0) := hit_no ht
          go_wp2_with (go_at_call 25; refine (rseal _ _ _ _ (by omega) (by omega) (by omega) (by omega) v0 v1 hu _).mono ?_; rintro e w1 ⟨rfl, hb⟩; have q3 := (hB.out.next hb).c2)
          go_roundw
          case rel => exact ⟨1, by omega, by go_num, by rw [H.out, HH.out]; go_num, hB.out.next hb⟩
          case measure => simp [intOf]
      · have H : Hid (cnt v b s0 s1 s2 s3 2 = cnt v b s0 s1 s2 s3 1 + hit v b 1 s1) := (by show cnt v b s0 s1 s2 s3 2 = cnt v b s0 s1 s2 s3 1 + hit v b 1 s1; simp [cnt])
        have q2 := hB.out.c3
        rcases Bool.eq_false_or_eq_true (s1 == sealOf 1 2 v b) with ht | ht
        · have HH : Hid (hit v b 1 s1 = 1) := hit_yes ht
          go_wp2_with (go_at_call 25; refine (rseal _ _ _ _ (by omega) (by omega) (by omega) (by omega) v0 v1 hu _).mono ?_; rintro e w1 ⟨rfl, hb⟩; have q3 := (hB.out.next hb).c3)
          go_roundw
          case rel => exact ⟨2, by omega, by go_num, by rw [H.out, HH.out]; go_num, hB.out.next hb⟩
          case measure => simp [intOf]
        · have HH : Hid (hit v b 1 s1 = 0) := hit_no ht
          go_wp2_with (go_at_call 25; refine (rseal _ _ _ _ (by omega) (by omega) (by omega) (by omega) v0 v1 hu _).mono ?_; rintro e w1 ⟨rfl, hb⟩; have q3 := (hB.out.next hb).c3)
          go_roundw
          case rel => exact ⟨2, by omega, by go_num, by rw [H.out, HH.out]; go_num, hB.out.next hb⟩
          case measure => simp [intOf]
      · have H : Hid (cnt v b s0 s1 s2 s3 3 = cnt v b s0 s1 s2 s3 2 + hit v b 2 s2) := (by show cnt v b s0 s1 s2 s3 3 = cnt v b s0 s1 s2 s3 2 + hit v b 2 s2; simp [cnt])
        have q2 := hB.out.c4
        rcases Bool.eq_false_or_eq_true (s2 == sealOf 2 2 v b) with ht | ht
        · have HH : Hid (hit v b 2 s2 = 1) := hit_yes ht
          go_wp2_with (go_at_call 25; refine (rseal _ _ _ _ (by omega) (by omega) (by omega) (by omega) v0 v1 hu _).mono ?_; rintro e w1 ⟨rfl, hb⟩; have q3 := (hB.out.next hb).c4)
          go_roundw
          case rel => exact ⟨3, by omega, by go_num, by rw [H.out, HH.out]; go_num, hB.out.next hb⟩
          case measure => simp [intOf]
        · have HH : Hid (hit v b 2 s2 = 0) := hit_no ht
          go_wp2_with (go_at_call 25; refine (rseal _ _ _ _ (by omega) (by omega) (by omega) (by omega) v0 v1 hu _).mono ?_; rintro e w1 ⟨rfl, hb⟩; have q3 := (hB.out.next hb).c4)
          go_roundw
          case rel => exact ⟨3, by omega, by go_num, by rw [H.out, HH.out]; go_num, hB.out.next hb⟩
          case measure => simp [intOf]
      · have H : Hid (cnt v b s0 s1 s2 s3 4 = cnt v b s0 s1 s2 s3 3 + hit v b 3 s3) := (by show cnt v b s0 s1 s2 s3 4 = cnt v b s0 s1 s2 s3 3 + hit v b 3 s3; simp [cnt])
        have q2 := hB.out.c5
        rcases Bool.eq_false_or_eq_true (s3 == sealOf 3 2 v b) with ht | ht
        · have HH : Hid (hit v b 3 s3 = 1) := hit_yes ht
          go_wp2_with (go_at_call 25; refine (rseal _ _ _ _ (by omega) (by omega) (by omega) (by omega) v0 v1 hu _).mono ?_; rintro e w1 ⟨rfl, hb⟩; have q3 := (hB.out.next hb).c5)
          go_roundw
          case rel => exact ⟨4, by omega, by go_num, by rw [H.out, HH.out]; go_num, hB.out.next hb⟩
          case measure => simp [intOf]
        · have HH : Hid (hit v b 3 s3 = 0) := hit_no ht
          go_wp2_with (go_at_call 25; refine (rseal _ _ _ _ (by omega) (by omega) (by omega) (by omega) v0 v1 hu _).mono ?_; rintro e w1 ⟨rfl, hb⟩; have q3 := (hB.out.next hb).c5)
          go_roundw
          case rel => exact ⟨4, by omega, by go_num, by rw [H.out, HH.out]; go_num, hB.out.next hb⟩
          case measure => simp [intOf]
    · have hk4 : k = 4 := by omega
      subst hk4
      go_wp2
      go_ret
      exact ⟨by rw [HG.out]; rfl, hB.out.below⟩

end Go.Proofs.YtkehpnobidendaaGreatDoor
