/- The law's steps on no member (plain): at every Seal, Number and Good the program answers as the document does. -/
import Derived.Test.YtkehpnobidendaaGreatDoorRight
namespace Go.Proofs.YtkehpnobidendaaGreatDoor
open Go.RowKit

/-- What a step's record holds, cell by cell. -/
structure OpD where
  k : Int
  on : Int
  a : Int
  b : Int
  s : ByteArray
  n : Nat
  m0 : Int
  m1 : Int
  m2 : Int
  bv : Int
  jv : Int
  jb : Nat
  j0 : Int
  j1 : Int
  j2 : Int
  j3 : Int
  c : ByteArray
  nu : Int
  cv : Int
  cb : Nat
  c0 : Int
  c1 : Int
  c2 : Int
  c3 : Int
  sl : Int
/-- What the reading says of it: numbers within their kinds, a text of a length that Go takes. -/
structure OpD.Ok (o : OpD) : Prop where
  k0 : -9223372036854775808 ≤ o.k
  k1 : o.k ≤ 9223372036854775807
  on0 : -9223372036854775808 ≤ o.on
  on1 : o.on ≤ 9223372036854775807
  a0 : -9223372036854775808 ≤ o.a
  a1 : o.a ≤ 9223372036854775807
  b0 : -9223372036854775808 ≤ o.b
  b1 : o.b ≤ 9223372036854775807
  n1 : o.n < 18446744073709551616
  bv0 : -9223372036854775808 ≤ o.bv
  bv1 : o.bv ≤ 9223372036854775807
  jb1 : o.jb < 18446744073709551616
  c1 : o.c.size ≤ 140737488351232
  cv0 : -9223372036854775808 ≤ o.cv
  cv1 : o.cv ≤ 9223372036854775807
  cb1 : o.cb < 18446744073709551616
/-- Its cells. -/
def OpD.cells (o : OpD) : Array Value := #[.int .i64 o.k, .int .i64 o.on, .int .i64 o.a, .int .i64 o.b, .string o.s, .int .u64 o.n, .int .i64 o.m0, .int .i64 o.m1, .int .i64 o.m2, .int .i64 o.bv, .int .i64 o.jv, .int .u64 o.jb, .int .u64 o.j0, .int .u64 o.j1, .int .u64 o.j2, .int .u64 o.j3, .string o.c, .int .u64 o.nu, .int .i64 o.cv, .int .u64 o.cb, .int .u64 o.c0, .int .u64 o.c1, .int .u64 o.c2, .int .u64 o.c3, .int .u64 o.sl]

theorem box_cell {w w1 : World} {C : Array Value} {T : TypeId} (hb : Below (w.alloc (.cells C T)).heap.size (w.alloc (.cells C T)) w1) (j : Nat) : w1.cell? ⟨w.heap.size, j, none⟩ = C[j]? := by
  rw [hb.cell (by simp), World.cell?_alloc_new]

set_option maxRecDepth 100000 in
set_option maxHeartbeats 1000000 in
theorem plain1 (o : OpD) (ho : o.Ok) (hk : o.k = 1) (pw : Value) (w : World) (htab : Lib.TabIs Tryz.prog w "internal/strconv.uint64pow10" .u64 Lib.pow10Tab) :
    Calls Tryz.prog 9 #[pw, .agg o.cells] w fun e w' => e = .returned (.bool true) ∧ Below w.heap.size w w' := by
  have htr := fun o => tabIs_below htab (below_alloc w o)
  obtain ⟨k, on, a, b, s, n, m0, m1, m2, bv, jv, jb, j0, j1, j2, j3, c, nu, cv, cb, c0, c1, c2, c3, sl⟩ := o
  obtain ⟨k0, k1, on0, on1, a0, a1, b0, b1, n1, bv0, bv1, jb1, cc1, cv0, cv1, cb1⟩ := ho
  dsimp only [OpD.cells] at *
  subst hk
  clear bv0 bv1 jb1 cc1 cv0 cv1 cb1 htab
  go_enter Tryz.func9, Tryz.ntmps9
  go_wp2_with (first
    | (go_at_call 24; refine (pseal _ _ _ _ (by assumption) (by assumption) (by assumption) (by assumption) (by assumption) (by assumption) (by assumption) _ (htr _)).mono ?_; rintro e w1 ⟨rfl, hb⟩; have e1 : w1.cell? ⟨w.heap.size, 1, none⟩ = some (.int .i64 on) := box_cell hb 1; have e2 : w1.cell? ⟨w.heap.size, 2, none⟩ = some (.int .i64 a) := box_cell hb 2; have e3 : w1.cell? ⟨w.heap.size, 3, none⟩ = some (.int .i64 b) := box_cell hb 3; have e5 : w1.cell? ⟨w.heap.size, 5, none⟩ = some (.int .u64 n) := box_cell hb 5)
    | (go_at_call 25; refine (rseal _ _ _ _ (by assumption) (by assumption) (by assumption) (by assumption) (by assumption) (by assumption) (by assumption) _).mono ?_; rintro e w2 ⟨rfl, hc⟩))
  go_ret
  exact ⟨rfl, bnext (bnext (below_alloc _ _) hb) hc⟩

set_option maxRecDepth 100000 in
set_option maxHeartbeats 1000000 in
theorem plain2 (o : OpD) (ho : o.Ok) (hk : o.k = 2) (pw : Value) (w : World) (htab : Lib.TabIs Tryz.prog w "internal/strconv.uint64pow10" .u64 Lib.pow10Tab) :
    Calls Tryz.prog 9 #[pw, .agg o.cells] w fun e w' => e = .returned (.bool true) ∧ Below w.heap.size w w' := by
  have htr := fun o => tabIs_below htab (below_alloc w o)
  obtain ⟨k, on, a, b, s, n, m0, m1, m2, bv, jv, jb, j0, j1, j2, j3, c, nu, cv, cb, c0, c1, c2, c3, sl⟩ := o
  obtain ⟨k0, k1, on0, on1, a0, a1, b0, b1, n1, bv0, bv1, jb1, cc1, cv0, cv1, cb1⟩ := ho
  dsimp only [OpD.cells] at *
  subst hk
  clear on0 on1 a0 a1 b0 b1 n1 cv0 cv1 cb1 htab
  go_enter Tryz.func9, Tryz.ntmps9
  go_wp2_with (first
    | (go_at_call 26; refine (pnumber _ _ _ _ _ _ _ _ (by assumption) (by assumption) (by assumption) (by assumption) _ (htr _)).mono ?_; rintro e w1 ⟨rfl, hb⟩; have e9 : w1.cell? ⟨w.heap.size, 9, none⟩ = some (.int .i64 bv) := box_cell hb 9; have e10 : w1.cell? ⟨w.heap.size, 10, none⟩ = some (.int .i64 jv) := box_cell hb 10; have e11 : w1.cell? ⟨w.heap.size, 11, none⟩ = some (.int .u64 jb) := box_cell hb 11; have e12 : w1.cell? ⟨w.heap.size, 12, none⟩ = some (.int .u64 j0) := box_cell hb 12; have e13 : w1.cell? ⟨w.heap.size, 13, none⟩ = some (.int .u64 j1) := box_cell hb 13; have e14 : w1.cell? ⟨w.heap.size, 14, none⟩ = some (.int .u64 j2) := box_cell hb 14; have e15 : w1.cell? ⟨w.heap.size, 15, none⟩ = some (.int .u64 j3) := box_cell hb 15; have e16 : w1.cell? ⟨w.heap.size, 16, none⟩ = some (.string c) := box_cell hb 16)
    | (go_at_call 27; refine (rnumber _ _ _ _ _ _ _ _ (by assumption) (by assumption) (by assumption) (by assumption) _).mono ?_; rintro e w2 ⟨rfl, hc⟩))
  go_ret
  exact ⟨rfl, bnext (bnext (below_alloc _ _) hb) hc⟩

set_option maxRecDepth 100000 in
set_option maxHeartbeats 1000000 in
theorem plain3 (o : OpD) (ho : o.Ok) (hk : o.k = 3) (pw : Value) (w : World) (htab : Lib.TabIs Tryz.prog w "internal/strconv.uint64pow10" .u64 Lib.pow10Tab) :
    Calls Tryz.prog 9 #[pw, .agg o.cells] w fun e w' => e = .returned (.bool true) ∧ Below w.heap.size w w' := by
  have htr := fun o => tabIs_below htab (below_alloc w o)
  obtain ⟨k, on, a, b, s, n, m0, m1, m2, bv, jv, jb, j0, j1, j2, j3, c, nu, cv, cb, c0, c1, c2, c3, sl⟩ := o
  obtain ⟨k0, k1, on0, on1, a0, a1, b0, b1, n1, bv0, bv1, jb1, cc1, cv0, cv1, cb1⟩ := ho
  dsimp only [OpD.cells] at *
  subst hk
  clear on0 on1 a0 a1 b0 b1 n1 bv0 bv1 jb1 cc1 htab
  go_enter Tryz.func9, Tryz.ntmps9
  go_wp2_with (first
    | (go_at_call 28; refine (lright _ _ _ _ _ _ _ (by assumption) (by assumption) (by assumption) _).mono ?_; rintro e w1 ⟨t0, t1, t2, t3, rfl, hb⟩; have ht1 := tabIs_below (htr _) hb; have ht2 := fun o => tabIs_below ht1 (below_alloc w1 o))
    | (go_at_call 29; refine (pgood _ _ _ _ _ _ (by assumption) (by assumption) (by assumption) _ (ht2 _)).mono ?_; rintro e w2 ⟨rfl, hc⟩; have e0 : w2.cell? ⟨w1.heap.size, 0, none⟩ = some (.int .i64 cv) := box_cell hc 0; have e1 : w2.cell? ⟨w1.heap.size, 1, none⟩ = some (.int .u64 cb) := box_cell hc 1; have e2 : w2.cell? ⟨w1.heap.size, 2, none⟩ = some (.int .u64 t0) := box_cell hc 2; have e3 : w2.cell? ⟨w1.heap.size, 3, none⟩ = some (.int .u64 t1) := box_cell hc 3; have e4 : w2.cell? ⟨w1.heap.size, 4, none⟩ = some (.int .u64 t2) := box_cell hc 4; have e5 : w2.cell? ⟨w1.heap.size, 5, none⟩ = some (.int .u64 t3) := box_cell hc 5)
    | (go_at_call 30; refine (rgood _ _ _ _ _ _ (by assumption) (by assumption) (by assumption) _).mono ?_; rintro e w3 ⟨rfl, hd⟩))
  go_ret
  exact ⟨rfl, bnext (bnext (bnext (bnext (below_alloc _ _) hb) (below_alloc _ _)) hc) hd⟩

end Go.Proofs.YtkehpnobidendaaGreatDoor
