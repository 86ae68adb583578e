/- How many seals of a certificate are right: the program's count, at every certificate. -/
import Derived.Test.YtkehpnobidendaaGreatDoorNumber
namespace Go.Proofs.YtkehpnobidendaaGreatDoor
open Go.RowKit

/-- 1, if a seal is right. -/
def hit (v : Int) (b : Nat) (j s : Int) : Nat := if (s == sealOf j 2 v b) = true then 1 else 0
theorem hit_yes {v : Int} {b : Nat} {j s : Int} (h : (s == sealOf j 2 v b) = true) : hit v b j s = 1 := by unfold hit; rw [if_pos h]
theorem hit_no {v : Int} {b : Nat} {j s : Int} (h : (s == sealOf j 2 v b) = false) : hit v b j s = 0 := by unfold hit; rw [if_neg (by rw [h]; decide)]
/-- How many of the first k seals are right. -/
def cnt (v : Int) (b : Nat) (s0 s1 s2 s3 : Int) : Nat → Nat
  | 0 => 0
  | 1 => hit v b 0 s0
  | 2 => hit v b 0 s0 + hit v b 1 s1
  | 3 => hit v b 0 s0 + hit v b 1 s1 + hit v b 2 s2
  | _ => hit v b 0 s0 + hit v b 1 s1 + hit v b 2 s2 + hit v b 3 s3
theorem cnt_le (v : Int) (b : Nat) (s0 s1 s2 s3 : Int) (k : Nat) : cnt v b s0 s1 s2 s3 k ≤ 4 := by
  have h : ∀ j s, hit v b j s ≤ 1 := fun j s => by unfold hit; split <;> omega
  have h0 := h 0 s0; have h1 := h 1 s1; have h2 := h 2 s2; have h3 := h 3 s3
  unfold cnt; split <;> omega
/-- A certificate's box: what lies in it, and that it lies above w's memory. -/
structure Boxed (w wr : World) (v : Int) (b : Nat) (s0 s1 s2 s3 : Int) : Prop where
  below : Below w.heap.size w wr
  lt : w.heap.size < wr.heap.size
  c0 : wr.cell? ⟨w.heap.size, 0, none⟩ = some (.int .i64 v)
  c1 : wr.cell? ⟨w.heap.size, 1, none⟩ = some (.int .u64 b)
  c2 : wr.cell? ⟨w.heap.size, 2, none⟩ = some (.int .u64 s0)
  c3 : wr.cell? ⟨w.heap.size, 3, none⟩ = some (.int .u64 s1)
  c4 : wr.cell? ⟨w.heap.size, 4, none⟩ = some (.int .u64 s2)
  c5 : wr.cell? ⟨w.heap.size, 5, none⟩ = some (.int .u64 s3)
theorem Boxed.start (w : World) (v : Int) (b : Nat) (s0 s1 s2 s3 : Int) (T : TypeId) : Boxed w (w.alloc (.cells #[.int .i64 v, .int .u64 b, .int .u64 s0, .int .u64 s1, .int .u64 s2, .int .u64 s3] T)) v b s0 s1 s2 s3 :=
  ⟨below_alloc _ _, by simp, by rw [World.cell?_alloc_new]; rfl, by rw [World.cell?_alloc_new]; rfl, by rw [World.cell?_alloc_new]; rfl, by rw [World.cell?_alloc_new]; rfl, by rw [World.cell?_alloc_new]; rfl, by rw [World.cell?_alloc_new]; rfl⟩
theorem Boxed.next {w wr w1 : World} {v : Int} {b : Nat} {s0 s1 s2 s3 : Int} (h : Boxed w wr v b s0 s1 s2 s3) (hb : Below wr.heap.size wr w1) : Boxed w w1 v b s0 s1 s2 s3 :=
  ⟨bnext h.below hb, Nat.lt_of_lt_of_le h.lt hb.size, by rw [hb.cell h.lt]; exact h.c0, by rw [hb.cell h.lt]; exact h.c1, by rw [hb.cell h.lt]; exact h.c2, by rw [hb.cell h.lt]; exact h.c3, by rw [hb.cell h.lt]; exact h.c4, by rw [hb.cell h.lt]; exact h.c5⟩

theorem lt4 {k : Nat} (h : k < 4) : k = 0 ∨ k = 1 ∨ k = 2 ∨ k = 3 := by omega

set_option maxRecDepth 100000 in
set_option maxHeartbeats 1000000 in
theorem prights (v : Int) (b : Nat) (s0 s1 s2 s3 : Int) (v0 : -9223372036854775808 ≤ v) (v1 : v ≤ 9223372036854775807) (hu : b < 18446744073709551616) (w : World)
    (htab : Lib.TabIs Tryz.prog w "internal/strconv.uint64pow10" .u64 Lib.pow10Tab) :
    Calls Tryz.prog 53 #[.agg #[.int .i64 v, .int .u64 b, .int .u64 s0, .int .u64 s1, .int .u64 s2, .int .u64 s3]] w fun e w' => e = .returned (.int .i64 (cnt v b s0 s1 s2 s3 4)) ∧ Below w.heap.size w w' := by
  have i0 : ∀ w, (Instr.index 37 (.agg #[.int .u64 s0, .int .u64 s1, .int .u64 s2, .int .u64 s3]) (.int .i64 0)).run Tryz.prog w = .ok (.int .u64 s0) w := fun _ => by kernel_rfl
  have i1 : ∀ w, (Instr.index 37 (.agg #[.int .u64 s0, .int .u64 s1, .int .u64 s2, .int .u64 s3]) (.int .i64 1)).run Tryz.prog w = .ok (.int .u64 s1) w := fun _ => by kernel_rfl
  have i2 : ∀ w, (Instr.index 37 (.agg #[.int .u64 s0, .int .u64 s1, .int .u64 s2, .int .u64 s3]) (.int .i64 2)).run Tryz.prog w = .ok (.int .u64 s2) w := fun _ => by kernel_rfl
  have i3 : ∀ w, (Instr.index 37 (.agg #[.int .u64 s0, .int .u64 s1, .int .u64 s2, .int .u64 s3]) (.int .i64 3)).run Tryz.prog w = .ok (.int .u64 s3) w := fun _ => by kernel_rfl
  go_enter Tryz.func53, Tryz.ntmps53
  go_wp2
  go_loopw [3, 8] (fun n i wr => ∃ k : Nat, k ≤ 4 ∧ i = .int .i64 k ∧ n = .int .i64 (cnt v b s0 s1 s2 s3 k) ∧ Hid (Boxed w wr v b s0 s1 s2 s3) ∧ Lib.TabIs Tryz.prog wr "internal/strconv.uint64pow10" .u64 Lib.pow10Tab) (fun _ i _ => 4 - (intOf i).toNat)
  case atStart => exact ⟨0, by omega, rfl, rfl, Boxed.start _ _ _ _ _ _ _ _, tabIs_below htab (below_alloc _ _)⟩
  case round =>
    obtain ⟨k, hk, rfl, rfl, hB, htr⟩ := hrel
    have q0 := hB.out.c0
    have q1 := hB.out.c1
    have hle := cnt_le v b s0 s1 s2 s3 k
    by_cases hlt : k < 4
    · rcases lt4 hlt with rfl | rfl | rfl | rfl
      · have H : Hid (cnt v b s0 s1 s2 s3 1 = cnt v b s0 s1 s2 s3 0 + hit v b 0 s0) := (by show cnt v b s0 s1 s2 s3 1 = cnt v b s0 s1 s2 s3 0 + hit v b 0 s0; simp [cnt])
        rcases Bool.eq_false_or_eq_true (s0 == sealOf 0 2 v b) with ht | ht
        · have HH : Hid (hit v b 0 s0 = 1) := hit_yes ht
          go_wp2_with (go_at_call 24; refine (pseal _ _ _ _ (by omega) (by omega) (by omega) (by omega) v0 v1 hu _ htr).mono ?_; rintro e w1 ⟨rfl, hb⟩)
          go_roundw
          case rel => exact ⟨1, by omega, by go_num, by rw [H.out, HH.out]; go_num, hB.out.next hb, tabIs_below htr hb⟩
          case measure => simp [intOf]
        · have HH : Hid (hit v b 0 s0 = 0) := hit_no ht
          go_wp2_with (go_at_call 24; refine (pseal _ _ _ _ (by omega) (by omega) (by omega) (by omega) v0 v1 hu _ htr).mono ?_; rintro e w1 ⟨rfl, hb⟩)
          go_roundw
          case rel => exact ⟨1, by omega, by go_num, by rw [H.out, HH.out]; go_num, hB.out.next hb, tabIs_below htr hb⟩
          case measure => simp [intOf]
      · have H : Hid (cnt v b s0 s1 s2 s3 2 = cnt v b s0 s1 s2 s3 1 + hit v b 1 s1) := (by show cnt v b s0 s1 s2 s3 2 = cnt v b s0 s1 s2 s3 1 + hit v b 1 s1; simp [cnt])
        rcases Bool.eq_false_or_eq_true (s1 == sealOf 1 2 v b) with ht | ht
        · have HH : Hid (hit v b 1 s1 = 1) := hit_yes ht
          go_wp2_with (go_at_call 24; refine (pseal _ _ _ _ (by omega) (by omega) (by omega) (by omega) v0 v1 hu _ htr).mono ?_; rintro e w1 ⟨rfl, hb⟩)
          go_roundw
          case rel => exact ⟨2, by omega, by go_num, by rw [H.out, HH.out]; go_num, hB.out.next hb, tabIs_below htr hb⟩
          case measure => simp [intOf]
        · have HH : Hid (hit v b 1 s1 = 0) := hit_no ht
          go_wp2_with (go_at_call 24; refine (pseal _ _ _ _ (by omega) (by omega) (by omega) (by omega) v0 v1 hu _ htr).mono ?_; rintro e w1 ⟨rfl, hb⟩)
          go_roundw
          case rel => exact ⟨2, by omega, by go_num, by rw [H.out, HH.out]; go_num, hB.out.next hb, tabIs_below htr hb⟩
          case measure => simp [intOf]
      · have H : Hid (cnt v b s0 s1 s2 s3 3 = cnt v b s0 s1 s2 s3 2 + hit v b 2 s2) := (by show cnt v b s0 s1 s2 s3 3 = cnt v b s0 s1 s2 s3 2 + hit v b 2 s2; simp [cnt])
        rcases Bool.eq_false_or_eq_true (s2 == sealOf 2 2 v b) with ht | ht
        · have HH : Hid (hit v b 2 s2 = 1) := hit_yes ht
          go_wp2_with (go_at_call 24; refine (pseal _ _ _ _ (by omega) (by omega) (by omega) (by omega) v0 v1 hu _ htr).mono ?_; rintro e w1 ⟨rfl, hb⟩)
          go_roundw
          case rel => exact ⟨3, by omega, by go_num, by rw [H.out, HH.out]; go_num, hB.out.next hb, tabIs_below htr hb⟩
          case measure => simp [intOf]
        · have HH : Hid (hit v b 2 s2 = 0) := hit_no ht
          go_wp2_with (go_at_call 24; refine (pseal _ _ _ _ (by omega) (by omega) (by omega) (by omega) v0 v1 hu _ htr).mono ?_; rintro e w1 ⟨rfl, hb⟩)
          go_roundw
          case rel => exact ⟨3, by omega, by go_num, by rw [H.out, HH.out]; go_num, hB.out.next hb, tabIs_below htr hb⟩
          case measure => simp [intOf]
      · have H : Hid (cnt v b s0 s1 s2 s3 4 = cnt v b s0 s1 s2 s3 3 + hit v b 3 s3) := (by show cnt v b s0 s1 s2 s3 4 = cnt v b s0 s1 s2 s3 3 + hit v b 3 s3; simp [cnt])
        rcases Bool.eq_false_or_eq_true (s3 == sealOf 3 2 v b) with ht | ht
        · have HH : Hid (hit v b 3 s3 = 1) := hit_yes ht
          go_wp2_with (go_at_call 24; refine (pseal _ _ _ _ (by omega) (by omega) (by omega) (by omega) v0 v1 hu _ htr).mono ?_; rintro e w1 ⟨rfl, hb⟩)
          go_roundw
          case rel => exact ⟨4, by omega, by go_num, by rw [H.out, HH.out]; go_num, hB.out.next hb, tabIs_below htr hb⟩
          case measure => simp [intOf]
        · have HH : Hid (hit v b 3 s3 = 0) := hit_no ht
          go_wp2_with (go_at_call 24; refine (pseal _ _ _ _ (by omega) (by omega) (by omega) (by omega) v0 v1 hu _ htr).mono ?_; rintro e w1 ⟨rfl, hb⟩)
          go_roundw
          case rel => exact ⟨4, by omega, by go_num, by rw [H.out, HH.out]; go_num, hB.out.next hb, tabIs_below htr hb⟩
          case measure => simp [intOf]
    · have hk4 : k = 4 := by omega
      subst hk4
      go_wp2
      go_ret
      exact ⟨rfl, hB.out.below⟩

end Go.Proofs.YtkehpnobidendaaGreatDoor
