/- The program's small functions under Handle: isView, isBelow, lastOfLog, certOf. -/
import Derived.Test.YtkehpnobidendaaGreatDoorM24
namespace Go.Proofs.YtkehpnobidendaaGreatDoor
open Go.RowKit Go.Maps

theorem pisView (w : World) (v l : Int) : Calls Tryz.prog 110 #[.int .i64 v, .int .i64 l] w fun e w' => e = .returned (.bool (decide (1 ≤ v ∧ v ≤ l))) ∧ w' = w := by
  by_cases h0 : 1 ≤ v
  · by_cases h1 : v ≤ l
    · have e : decide (1 ≤ v ∧ v ≤ l) = true := by simp; omega
      rw [e]
      go_enter Tryz.func110, Tryz.ntmps110
      go_wp2
      go_ret
      exact ⟨by simp_all, rfl⟩
    · have e : decide (1 ≤ v ∧ v ≤ l) = false := by simp; omega
      rw [e]
      go_enter Tryz.func110, Tryz.ntmps110
      go_wp2
      go_ret
      exact ⟨by simp_all, rfl⟩
  · have e : decide (1 ≤ v ∧ v ≤ l) = false := by simp; omega
    rw [e]
    go_enter Tryz.func110, Tryz.ntmps110
    go_wp2
    go_ret
    exact ⟨by simp_all, rfl⟩
set_option maxRecDepth 100000 in
theorem pisBelow (w : World) (cv : Int) (cb : Nat) (s0 s1 s2 s3 : Int) (v : Int) : Calls Tryz.prog 111 #[.agg #[.int .i64 cv, .int .u64 cb, .int .u64 s0, .int .u64 s1, .int .u64 s2, .int .u64 s3], .int .i64 v] w fun e w' => e = .returned (.bool (decide (0 ≤ cv ∧ cv < v))) ∧ Below w.heap.size w w' := by
  by_cases h0 : 0 ≤ cv
  · by_cases h1 : cv < v
    · have e : decide (0 ≤ cv ∧ cv < v) = true := by simp; omega
      rw [e]
      go_enter Tryz.func111, Tryz.ntmps111
      go_wp2
      go_ret
      exact ⟨by simp_all, by first | exact below_alloc _ _ | exact Below.refl _ _⟩
    · have e : decide (0 ≤ cv ∧ cv < v) = false := by simp; omega
      rw [e]
      go_enter Tryz.func111, Tryz.ntmps111
      go_wp2
      go_ret
      exact ⟨by simp_all, by first | exact below_alloc _ _ | exact Below.refl _ _⟩
  · have e : decide (0 ≤ cv ∧ cv < v) = false := by simp; omega
    rw [e]
    go_enter Tryz.func111, Tryz.ntmps111
    go_wp2
    go_ret
    exact ⟨by simp_all, by first | exact below_alloc _ _ | exact Below.refl _ _⟩
/-- The certificate of a roll of votes. -/
def Rl.crt (r : Rl) (v : Int) (n : Nat) : Crt := ⟨v, n, if r.a then sealOf 0 2 v n else 0, if r.b then sealOf 1 2 v n else 0, if r.c then sealOf 2 2 v n else 0, if r.d then sealOf 3 2 v n else 0⟩
/-- Those of the first j members. -/
def Rl.cut (r : Rl) (j : Nat) : Rl := ⟨r.a && decide (0 < j), r.b && decide (1 < j), r.c && decide (2 < j), r.d && decide (3 < j)⟩
structure CertAt (w wr : World) (v : Int) (n : Nat) (r : Rl) (j : Nat) : Prop where
  x : wr.heap[w.heap.size + 1]? = some (.cells #[.int .i64 0, .int .u64 0, .int .u64 0, .int .u64 0, .int .u64 0, .int .u64 0] 39 (0, 0))
  y : wr.heap[w.heap.size + 2]? = some (.cells ((r.cut j).crt v n).cells.toArray 39 (0, 0))
  b : Below w.heap.size w wr
theorem CertAt.same {w wr w' : World} {v : Int} {n : Nat} {r : Rl} {j j' : Nat} (h : CertAt w wr v n r j) (hb : Below wr.heap.size wr w') (hj : r.cut j' = r.cut j) : CertAt w w' v n r j' :=
  ⟨(hb.block _ (lt_at h.x)).trans h.x, by rw [hj]; exact (hb.block _ (lt_at h.y)).trans h.y, bnext h.b hb⟩
theorem CertAt.put {w w1 : World} {v : Int} {n : Nat} {r : Rl} {j j' : Nat} (h : CertAt w w1 v n r j) (o : Nat) (x : Value) (hj : (((r.cut j).crt v n).cells.toArray).setIfInBounds o x = ((r.cut j').crt v n).cells.toArray) : CertAt w (w1.setCell ⟨w.heap.size + 2, o, none⟩ x) v n r j' := by
  refine ⟨(heap_store_ne _ (by omega)).trans h.x, ?_, h.b.setCell (p := ⟨w.heap.size + 2, o, none⟩) (by show w.heap.size ≤ w.heap.size + 2; omega) _⟩
  rw [← hj]; exact heap_store h.y x
theorem heap_new_at {w : World} {k : Nat} (o : Obj) (h : w.heap.size = k) : (w.alloc o).heap[k]? = some o := by subst h; exact heap_alloc_new w o
theorem certStart (w : World) (o : Obj) (v : Int) (n : Nat) (r : Rl) : CertAt w (((w.alloc o).alloc (.cells #[.int .i64 0, .int .u64 0, .int .u64 0, .int .u64 0, .int .u64 0, .int .u64 0] 39)).alloc (.cells #[.int .i64 v, .int .u64 n, .int .u64 0, .int .u64 0, .int .u64 0, .int .u64 0] 39)) v n r 0 := by
  refine ⟨?_, ?_, bnext (bnext (below_alloc _ _) (below_alloc _ _)) (below_alloc _ _)⟩
  · rw [Below.heap_alloc _ _ _ (by simp)]
    exact heap_new_at _ (by simp)
  · have e : ((r.cut 0).crt v n).cells.toArray = #[.int .i64 v, .int .u64 n, .int .u64 0, .int .u64 0, .int .u64 0, .int .u64 0] := by simp [Rl.cut, Rl.crt, Crt.cells]
    rw [e]
    exact heap_new_at _ (by simp)
set_option maxRecDepth 100000 in
set_option maxHeartbeats 2000000 in
theorem pcertOf (w : World) (v : Int) (n : Nat) (r : Rl) (v0 : -9223372036854775808 ≤ v) (v1 : v ≤ 9223372036854775807) (hn : n < 18446744073709551616) (ht : Tab w) :
    Calls Tryz.prog 100 #[.int .i64 v, .int .u64 n, rollV r] w fun e w' => e = .returned (.agg (r.crt v n).cells.toArray) ∧ Below w.heap.size w w' := by
  obtain ⟨ra, rb, rc, rd⟩ := r
  dsimp only [rollV]
  have i0 := ix0
  have i1 := ix1
  have i2 := ix2
  have i3 := ix3
  have HS : Hid (∀ (j : Int) (W : World), 0 ≤ j → j ≤ 3 → Below w.heap.size w W → Calls Tryz.prog 24 #[.int .i64 j, .int .i64 2, .int .i64 v, .int .u64 n] W fun e w' => e = .returned (.int .u64 (sealOf j 2 v n)) ∧ Below W.heap.size W w') := fun j W h0 h1 hW => pseal j 2 v n (by omega) (by omega) (by decide) (by decide) v0 v1 hn W (ht.below hW).is
  clear ht
  obtain ⟨⟨dv, db, d0, d1, d2, d3⟩, hR⟩ : ∃ R, R = (⟨ra, rb, rc, rd⟩ : Rl).crt v n := ⟨_, rfl⟩
  rw [← hR]
  have HR : Hid ((⟨dv, db, d0, d1, d2, d3⟩ : Crt) = (⟨ra, rb, rc, rd⟩ : Rl).crt v n) := hR
  clear hR
  dsimp only [Crt.cells]
  go_enter Tryz.func100, Tryz.ntmps100
  go_wp2
  go_loopw [8, 9, 14] (fun _ _ i wr => ∃ j : Nat, j ≤ 4 ∧ i = .int .i64 j ∧ Hid (CertAt w wr v n ⟨ra, rb, rc, rd⟩ j)) (fun _ _ i _ => 4 - (intOf i).toNat)
  case atStart =>
    exact ⟨0, by omega, rfl, certStart w _ v n _⟩
  case round =>
  obtain ⟨j, hj, rfl, hC⟩ := hrel
  by_cases hlt : j < 4
  · rcases (by omega : j = 0 ∨ j = 1 ∨ j = 2 ∨ j = 3) with rfl | rfl | rfl | rfl
    · cases ra
      · have hcj : (⟨false, rb, rc, rd⟩ : Rl).cut 1 = (⟨false, rb, rc, rd⟩ : Rl).cut 0 := by simp [Rl.cut]
        go_wp2
        go_roundw
        case rel => exact ⟨1, by omega, rfl, (hC.out).same (Below.refl _ _) hcj⟩
        case measure => simp [intOf]
      · go_wp2_with (go_at_call 24; refine (HS.out 0 wr (by omega) (by omega) hC.out.b).mono ?_; rintro e w1 ⟨rfl, hb1⟩; have hC1 := hC.out.same hb1 rfl; have fz := free_at hC1.y; have c7 := cell_at hC1.y 2; have HC1 : Hid (CertAt w w1 v n ⟨true, rb, rc, rd⟩ 0) := hC1; clear hC1)
        go_roundw
        case rel => exact ⟨1, by omega, rfl, HC1.out.put 2 _ (by simp [Rl.cut, Rl.crt, Crt.cells])⟩
        case measure => simp [intOf]
    · cases rb
      · have hcj : (⟨ra, false, rc, rd⟩ : Rl).cut 2 = (⟨ra, false, rc, rd⟩ : Rl).cut 1 := by simp [Rl.cut]
        go_wp2
        go_roundw
        case rel => exact ⟨2, by omega, rfl, (hC.out).same (Below.refl _ _) hcj⟩
        case measure => simp [intOf]
      · go_wp2_with (go_at_call 24; refine (HS.out 1 wr (by omega) (by omega) hC.out.b).mono ?_; rintro e w1 ⟨rfl, hb1⟩; have hC1 := hC.out.same hb1 rfl; have fz := free_at hC1.y; have c7 := cell_at hC1.y 3; have HC1 : Hid (CertAt w w1 v n ⟨ra, true, rc, rd⟩ 1) := hC1; clear hC1)
        go_roundw
        case rel => exact ⟨2, by omega, rfl, HC1.out.put 3 _ (by simp [Rl.cut, Rl.crt, Crt.cells])⟩
        case measure => simp [intOf]
    · cases rc
      · have hcj : (⟨ra, rb, false, rd⟩ : Rl).cut 3 = (⟨ra, rb, false, rd⟩ : Rl).cut 2 := by simp [Rl.cut]
        go_wp2
        go_roundw
        case rel => exact ⟨3, by omega, rfl, (hC.out).same (Below.refl _ _) hcj⟩
        case measure => simp [intOf]
      · go_wp2_with (go_at_call 24; refine (HS.out 2 wr (by omega) (by omega) hC.out.b).mono ?_; rintro e w1 ⟨rfl, hb1⟩; have hC1 := hC.out.same hb1 rfl; have fz := free_at hC1.y; have c7 := cell_at hC1.y 4; have HC1 : Hid (CertAt w w1 v n ⟨ra, rb, true, rd⟩ 2) := hC1; clear hC1)
        go_roundw
        case rel => exact ⟨3, by omega, rfl, HC1.out.put 4 _ (by simp [Rl.cut, Rl.crt, Crt.cells])⟩
        case measure => simp [intOf]
    · cases rd
      · have hcj : (⟨ra, rb, rc, false⟩ : Rl).cut 4 = (⟨ra, rb, rc, false⟩ : Rl).cut 3 := by simp [Rl.cut]
        go_wp2
        go_roundw
        case rel => exact ⟨4, by omega, rfl, (hC.out).same (Below.refl _ _) hcj⟩
        case measure => simp [intOf]
      · go_wp2_with (go_at_call 24; refine (HS.out 3 wr (by omega) (by omega) hC.out.b).mono ?_; rintro e w1 ⟨rfl, hb1⟩; have hC1 := hC.out.same hb1 rfl; have fz := free_at hC1.y; have c7 := cell_at hC1.y 5; have HC1 : Hid (CertAt w w1 v n ⟨ra, rb, rc, true⟩ 3) := hC1; clear hC1)
        go_roundw
        case rel => exact ⟨4, by omega, rfl, HC1.out.put 5 _ (by simp [Rl.cut, Rl.crt, Crt.cells])⟩
        case measure => simp [intOf]
  · have hj4 : j = 4 := by omega
    subst hj4
    have hx := hC.out.x
    have hy := hC.out.y
    have ecut : (⟨ra, rb, rc, rd⟩ : Rl).cut 4 = ⟨ra, rb, rc, rd⟩ := by simp [Rl.cut]
    rw [ecut, ← HR.out] at hy
    dsimp only [Crt.cells] at hy
    have HB : Hid (Below w.heap.size w wr) := hC.out.b
    have fx := free_at hx
    have x0 := cell_at hx 0
    have x1 := cell_at hx 1
    have x2 := cell_at hx 2
    have x3 := cell_at hx 3
    have x4 := cell_at hx 4
    have x5 := cell_at hx 5
    have y0 := cell_at hy 0
    have y1 := cell_at hy 1
    have y2 := cell_at hy 2
    have y3 := cell_at hy 3
    have y4 := cell_at hy 4
    have y5 := cell_at hy 5
    have HX : Hid (wr.heap[w.heap.size + 1]? = some (.cells #[.int .i64 0, .int .u64 0, .int .u64 0, .int .u64 0, .int .u64 0, .int .u64 0] 39 (0, 0))) := hx
    clear hC hx hy ecut
    go_wp2
    have e1 := heap_store (heap_store (heap_store (heap_store (heap_store (heap_store HX.out (i := 0) (.int .i64 dv)) (i := 1) (.int .u64 db)) (i := 2) (.int .u64 d0)) (i := 3) (.int .u64 d1)) (i := 4) (.int .u64 d2)) (i := 5) (.int .u64 d3)
    have hle : w.heap.size ≤ w.heap.size + 1 := by omega
    have e2 := (((((HB.out.setCell (p := ⟨w.heap.size + 1, 0, none⟩) hle (.int .i64 dv)).setCell (p := ⟨w.heap.size + 1, 1, none⟩) hle (.int .u64 db)).setCell (p := ⟨w.heap.size + 1, 2, none⟩) hle (.int .u64 d0)).setCell (p := ⟨w.heap.size + 1, 3, none⟩) hle (.int .u64 d1)).setCell (p := ⟨w.heap.size + 1, 4, none⟩) hle (.int .u64 d2)).setCell (p := ⟨w.heap.size + 1, 5, none⟩) hle (.int .u64 d3)
    refine bodyPost_ret (results_cell rfl rfl e1 rfl Tryz.underlying39 (by kernel_rfl)) rfl ⟨rfl, e2⟩
theorem plastNil (w : World) (p : Nat) (S : Nat → Prop) (m : Mem) (h : PMem w p S m) (hn : m.log = []) :
    Calls Tryz.prog 121 #[.pointer (some ⟨p, 0, none⟩)] w fun e w' => e = .returned (.int .u64 0) ∧ w' = w := by
  obtain ⟨vq, vl, bb, bv, bw, hb, _⟩ := h.ex
  have hr : Row w S 36 1 vl m.log.length (m.log.flatMap ncells) := hb.row 1 _ _ _ rfl rfl rfl
  obtain ⟨a, cap, rfl⟩ := hr.isSlice
  have c18 : w.cell? ⟨p, 18, none⟩ = some (.slice a m.log.length cap) := cell_at hb.box 18
  rw [hn] at c18
  clear h hr hb
  go_enter Tryz.func121, Tryz.ntmps121
  go_wp2
  go_ret
  exact ⟨rfl, rfl⟩
theorem plastSome (w : World) (p : Nat) (S : Nat → Prop) (m : Mem) (h : PMem w p S m) (l : List Nat) (z : Nat) (hn : m.log = l ++ [z]) (hl : l.length ≤ 1700000000000) :
    Calls Tryz.prog 121 #[.pointer (some ⟨p, 0, none⟩)] w fun e w' => e = .returned (.int .u64 z) ∧ Below w.heap.size w w' := by
  obtain ⟨vq, vl, bb, bv, bw, hb, _⟩ := h.ex
  have hr : Row w S 36 1 vl m.log.length (m.log.flatMap ncells) := hb.row 1 _ _ _ rfl rfl rfl
  obtain ⟨a, cap, rfl⟩ := hr.isSlice
  have hlen : m.log.length = l.length + 1 := by rw [hn]; simp
  obtain ⟨g, off, rfl, _, hg, hcp⟩ := hr.place (by omega)
  have c18 : w.cell? ⟨p, 18, none⟩ = some (.slice (some ⟨g, off, none⟩) m.log.length cap) := cell_at hb.box 18
  have q : w.cell? ⟨g, off + l.length, none⟩ = some (.int .u64 z) := by
    have hn1 : ∀ a, (ncells a).length = 1 := fun _ => rfl
    have := hr.elem hn1 l.length 0 (by rw [hlen]; omega) (by omega)
    simpa [ncells, hn] using this
  rw [hlen] at c18
  have i0 : (0 : Int) ≤ (l.length : Int) := by omega
  have i1 : ((l.length : Int) + 1 == 0) = false := by simp; omega
  have i2 : (l.length : Int) + 1 - 1 = (l.length : Int) := by omega
  clear h hr hb hn hlen
  go_enter Tryz.func121, Tryz.ntmps121
  go_wp2
  go_quiet (fail)
  go_wp2
  go_ret
  exact ⟨rfl, below_drewN (Below.refl _ _) _⟩
end Go.Proofs.YtkehpnobidendaaGreatDoor
