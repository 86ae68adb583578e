/- The law's own step 'right': whatever the bits, it gives a certificate of the same view and block; memory below is as it was. -/
import Derived.Test.YtkehpnobidendaaGreatDoorRGood
namespace Go.Proofs.YtkehpnobidendaaGreatDoor
open Go.RowKit

/-- A certificate's box, and the place of the result behind it. -/
structure RBox (w wr : World) (v : Int) (b : Nat) (t0 t1 t2 t3 : Int) : Prop where
  bx : Boxed w wr v b t0 t1 t2 t3
  lt2 : w.heap.size + 1 < wr.heap.size
  fz : ∀ o, wr.frozen? ⟨w.heap.size, o, none⟩ = false
  fr : ∀ o, wr.frozen? ⟨w.heap.size + 1, o, none⟩ = false
  r : ∀ o, o < 6 → ∃ z, wr.cell? ⟨w.heap.size + 1, o, none⟩ = some z
theorem RBox.start (w : World) (v : Int) (b : Nat) (s0 s1 s2 s3 z0 z1 z2 z3 z4 z5 : Value) (a0 a1 a2 a3 : Int) (T U : TypeId) (h0 : s0 = .int .u64 a0) (h1 : s1 = .int .u64 a1) (h2 : s2 = .int .u64 a2) (h3 : s3 = .int .u64 a3) :
    RBox w ((w.alloc (.cells #[.int .i64 v, .int .u64 b, s0, s1, s2, s3] T)).alloc (.cells #[z0, z1, z2, z3, z4, z5] U)) v b a0 a1 a2 a3 := by
  subst h0 h1 h2 h3
  refine ⟨(Boxed.start w v b a0 a1 a2 a3 T).next (below_alloc _ _), by simp, fun o => by simp, fun o => by simp, fun o ho => ?_⟩
  rw [World.cell?_alloc2_new]
  match o, ho with
  | 0, _ => exact ⟨_, rfl⟩
  | 1, _ => exact ⟨_, rfl⟩
  | 2, _ => exact ⟨_, rfl⟩
  | 3, _ => exact ⟨_, rfl⟩
  | 4, _ => exact ⟨_, rfl⟩
  | 5, _ => exact ⟨_, rfl⟩
theorem RBox.next {w wr w1 : World} {v : Int} {b : Nat} {t0 t1 t2 t3 : Int} (h : RBox w wr v b t0 t1 t2 t3) (hb : Below wr.heap.size wr w1) : RBox w w1 v b t0 t1 t2 t3 :=
  ⟨h.bx.next hb, Nat.lt_of_lt_of_le h.lt2 hb.size, fun o => by rw [hb.frozen h.bx.lt]; exact h.fz o, fun o => by rw [hb.frozen h.lt2]; exact h.fr o, fun o ho => by rw [hb.cell h.lt2]; exact h.r o ho⟩
theorem RBox.set0 {w wr : World} {v : Int} {b : Nat} {t0 t1 t2 t3 : Int} (h : RBox w wr v b t0 t1 t2 t3) (x : Int) : RBox w (wr.setCell ⟨w.heap.size, 2, none⟩ (.int .u64 x)) v b x t1 t2 t3 :=
  ⟨⟨h.bx.below.setCell (Nat.le_refl _) _, by rw [World.size_setCell]; exact h.bx.lt, by rw [World.cell?_setCell_other _ _ _ _ (by simp)]; exact h.bx.c0, by rw [World.cell?_setCell_other _ _ _ _ (by simp)]; exact h.bx.c1, World.cell?_setCell_same _ _ _ h.bx.c2, by rw [World.cell?_setCell_other _ _ _ _ (by simp)]; exact h.bx.c3, by rw [World.cell?_setCell_other _ _ _ _ (by simp)]; exact h.bx.c4, by rw [World.cell?_setCell_other _ _ _ _ (by simp)]; exact h.bx.c5⟩, by rw [World.size_setCell]; exact h.lt2, fun o => by rw [World.frozen?_setCell]; exact h.fz o, fun o => by rw [World.frozen?_setCell]; exact h.fr o, fun o ho => by rw [World.cell?_setCell_other _ _ _ _ (by simp)]; exact h.r o ho⟩
theorem RBox.set1 {w wr : World} {v : Int} {b : Nat} {t0 t1 t2 t3 : Int} (h : RBox w wr v b t0 t1 t2 t3) (x : Int) : RBox w (wr.setCell ⟨w.heap.size, 3, none⟩ (.int .u64 x)) v b t0 x t2 t3 :=
  ⟨⟨h.bx.below.setCell (Nat.le_refl _) _, by rw [World.size_setCell]; exact h.bx.lt, by rw [World.cell?_setCell_other _ _ _ _ (by simp)]; exact h.bx.c0, by rw [World.cell?_setCell_other _ _ _ _ (by simp)]; exact h.bx.c1, by rw [World.cell?_setCell_other _ _ _ _ (by simp)]; exact h.bx.c2, World.cell?_setCell_same _ _ _ h.bx.c3, by rw [World.cell?_setCell_other _ _ _ _ (by simp)]; exact h.bx.c4, by rw [World.cell?_setCell_other _ _ _ _ (by simp)]; exact h.bx.c5⟩, by rw [World.size_setCell]; exact h.lt2, fun o => by rw [World.frozen?_setCell]; exact h.fz o, fun o => by rw [World.frozen?_setCell]; exact h.fr o, fun o ho => by rw [World.cell?_setCell_other _ _ _ _ (by simp)]; exact h.r o ho⟩
theorem RBox.set2 {w wr : World} {v : Int} {b : Nat} {t0 t1 t2 t3 : Int} (h : RBox w wr v b t0 t1 t2 t3) (x : Int) : RBox w (wr.setCell ⟨w.heap.size, 4, none⟩ (.int .u64 x)) v b t0 t1 x t3 :=
  ⟨⟨h.bx.below.setCell (Nat.le_refl _) _, by rw [World.size_setCell]; exact h.bx.lt, by rw [World.cell?_setCell_other _ _ _ _ (by simp)]; exact h.bx.c0, by rw [World.cell?_setCell_other _ _ _ _ (by simp)]; exact h.bx.c1, by rw [World.cell?_setCell_other _ _ _ _ (by simp)]; exact h.bx.c2, by rw [World.cell?_setCell_other _ _ _ _ (by simp)]; exact h.bx.c3, World.cell?_setCell_same _ _ _ h.bx.c4, by rw [World.cell?_setCell_other _ _ _ _ (by simp)]; exact h.bx.c5⟩, by rw [World.size_setCell]; exact h.lt2, fun o => by rw [World.frozen?_setCell]; exact h.fz o, fun o => by rw [World.frozen?_setCell]; exact h.fr o, fun o ho => by rw [World.cell?_setCell_other _ _ _ _ (by simp)]; exact h.r o ho⟩
theorem RBox.set3 {w wr : World} {v : Int} {b : Nat} {t0 t1 t2 t3 : Int} (h : RBox w wr v b t0 t1 t2 t3) (x : Int) : RBox w (wr.setCell ⟨w.heap.size, 5, none⟩ (.int .u64 x)) v b t0 t1 t2 x :=
  ⟨⟨h.bx.below.setCell (Nat.le_refl _) _, by rw [World.size_setCell]; exact h.bx.lt, by rw [World.cell?_setCell_other _ _ _ _ (by simp)]; exact h.bx.c0, by rw [World.cell?_setCell_other _ _ _ _ (by simp)]; exact h.bx.c1, by rw [World.cell?_setCell_other _ _ _ _ (by simp)]; exact h.bx.c2, by rw [World.cell?_setCell_other _ _ _ _ (by simp)]; exact h.bx.c3, by rw [World.cell?_setCell_other _ _ _ _ (by simp)]; exact h.bx.c4, World.cell?_setCell_same _ _ _ h.bx.c5⟩, by rw [World.size_setCell]; exact h.lt2, fun o => by rw [World.frozen?_setCell]; exact h.fz o, fun o => by rw [World.frozen?_setCell]; exact h.fr o, fun o ho => by rw [World.cell?_setCell_other _ _ _ _ (by simp)]; exact h.r o ho⟩

set_option maxRecDepth 100000 in
set_option maxHeartbeats 1000000 in
theorem lright (v : Int) (b : Nat) (s0 s1 s2 s3 : Int) (bits : Int) (v0 : -9223372036854775808 ≤ v) (v1 : v ≤ 9223372036854775807) (hu : b < 18446744073709551616) (w : World) :
    Calls Tryz.prog 28 #[.agg #[.int .i64 v, .int .u64 b, .int .u64 s0, .int .u64 s1, .int .u64 s2, .int .u64 s3], .int .i64 bits] w fun e w' => ∃ t0 t1 t2 t3 : Int, e = .returned (.agg #[.int .i64 v, .int .u64 b, .int .u64 t0, .int .u64 t1, .int .u64 t2, .int .u64 t3]) ∧ Below w.heap.size w w' := by
  go_enter Tryz.func28, Tryz.ntmps28
  go_wp2
  go_loopw [5] (fun i wr => ∃ k : Nat, k ≤ 4 ∧ i = .int .i64 k ∧ ∃ t0 t1 t2 t3 : Int, Hid (RBox w wr v b t0 t1 t2 t3)) (fun i _ => 4 - (intOf i).toNat)
  case atStart => exact ⟨0, by omega, rfl, s0, s1, s2, s3, RBox.start w v b _ _ _ _ _ _ _ _ _ _ s0 s1 s2 s3 _ _ rfl rfl rfl rfl⟩
  case round =>
    obtain ⟨k, hk, rfl, t0, t1, t2, t3, hB⟩ := hrel
    have q0 := hB.out.bx.c0
    have q1 := hB.out.bx.c1
    by_cases hlt : k < 4
    · rcases lt4 hlt with rfl | rfl | rfl | rfl
      · have q2 := hB.out.bx.c2
        go_wp2_with (go_at_call 25; refine (rseal _ _ _ _ (by omega) (by omega) (by omega) (by omega) v0 v1 hu _).mono ?_; rintro e w1 ⟨rfl, hb⟩; have q3 := (hB.out.next hb).bx.c2; have q4 := (hB.out.next hb).fz 2; have q5 := hB.out.next hb; have q6 : Hid _ := q5; clear q5)
        · go_roundw
          case rel => exact ⟨1, by omega, by go_num, (sealOf 0 2 v b), t1, t2, t3, q6.out.set0 _⟩
          case measure => simp [intOf]
        · go_roundw
          case rel => exact ⟨1, by omega, by go_num, t0, t1, t2, t3, hB⟩
          case measure => simp [intOf]
      · have q2 := hB.out.bx.c3
        go_wp2_with (go_at_call 25; refine (rseal _ _ _ _ (by omega) (by omega) (by omega) (by omega) v0 v1 hu _).mono ?_; rintro e w1 ⟨rfl, hb⟩; have q3 := (hB.out.next hb).bx.c3; have q4 := (hB.out.next hb).fz 3; have q5 := hB.out.next hb; have q6 : Hid _ := q5; clear q5)
        · go_roundw
          case rel => exact ⟨2, by omega, by go_num, t0, (sealOf 1 2 v b), t2, t3, q6.out.set1 _⟩
          case measure => simp [intOf]
        · go_roundw
          case rel => exact ⟨2, by omega, by go_num, t0, t1, t2, t3, hB⟩
          case measure => simp [intOf]
      · have q2 := hB.out.bx.c4
        go_wp2_with (go_at_call 25; refine (rseal _ _ _ _ (by omega) (by omega) (by omega) (by omega) v0 v1 hu _).mono ?_; rintro e w1 ⟨rfl, hb⟩; have q3 := (hB.out.next hb).bx.c4; have q4 := (hB.out.next hb).fz 4; have q5 := hB.out.next hb; have q6 : Hid _ := q5; clear q5)
        · go_roundw
          case rel => exact ⟨3, by omega, by go_num, t0, t1, (sealOf 2 2 v b), t3, q6.out.set2 _⟩
          case measure => simp [intOf]
        · go_roundw
          case rel => exact ⟨3, by omega, by go_num, t0, t1, t2, t3, hB⟩
          case measure => simp [intOf]
      · have q2 := hB.out.bx.c5
        go_wp2_with (go_at_call 25; refine (rseal _ _ _ _ (by omega) (by omega) (by omega) (by omega) v0 v1 hu _).mono ?_; rintro e w1 ⟨rfl, hb⟩; have q3 := (hB.out.next hb).bx.c5; have q4 := (hB.out.next hb).fz 5; have q5 := hB.out.next hb; have q6 : Hid _ := q5; clear q5)
        · go_roundw
          case rel => exact ⟨4, by omega, by go_num, t0, t1, t2, (sealOf 3 2 v b), q6.out.set3 _⟩
          case measure => simp [intOf]
        · go_roundw
          case rel => exact ⟨4, by omega, by go_num, t0, t1, t2, t3, hB⟩
          case measure => simp [intOf]
    · have hk4 : k = 4 := by omega
      subst hk4
      have q2 := hB.out.bx.c2
      have q3 := hB.out.bx.c3
      have q4 := hB.out.bx.c4
      have q5 := hB.out.bx.c5
      have hf := hB.out.fr
      obtain ⟨z0, r0⟩ := hB.out.r 0 (by omega)
      obtain ⟨z1, r1⟩ := hB.out.r 1 (by omega)
      obtain ⟨z2, r2⟩ := hB.out.r 2 (by omega)
      obtain ⟨z3, r3⟩ := hB.out.r 3 (by omega)
      obtain ⟨z4, r4⟩ := hB.out.r 4 (by omega)
      obtain ⟨z5, r5⟩ := hB.out.r 5 (by omega)
      go_wp2
      refine bodyPost_ret (v := .agg #[.int .i64 v, .int .u64 b, .int .u64 t0, .int .u64 t1, .int .u64 t2, .int .u64 t3]) (by simp [results, Tryz.results28, go_sem, r0, r1, r2, r3, r4, r5]) rfl ⟨t0, t1, t2, t3, rfl, ?_⟩
      exact (((((hB.out.bx.below.setCell (by simp) _).setCell (by simp) _).setCell (by simp) _).setCell (by simp) _).setCell (by simp) _).setCell (by simp) _

end Go.Proofs.YtkehpnobidendaaGreatDoor
