/- The law Seals: at every script the played steps all answer true; memory below is as it was. -/
import Derived.Test.YtkehpnobidendaaGreatDoorM05
import Derived.Deep.MidRow
namespace Go.Proofs.YtkehpnobidendaaGreatDoor
open Go.RowKit

/-- The steps that the law itself makes first. -/
def opFirst (k : Int) : OpD := ⟨k, 1, 0, 0, ⟨#[102, 105, 114, 115, 116]⟩, 0, 0, 0, 0, 0, 0, 0, 0, 0, 0, 0, ⟨#[]⟩, 0, 0, 0, 0, 0, 0, 0, 0⟩
theorem opFirst_ok (k : Int) (h0 : 1 ≤ k) (h1 : k ≤ 3) : (opFirst k).Ok := by
  constructor <;> dsimp only [opFirst] <;> first | omega | decide
theorem stepFirst (k : Int) (h0 : 1 ≤ k) (h1 : k ≤ 3) (bw : Nat) (w : World) (hm : w.cell? ⟨bw, 0, none⟩ = some (.slice none 0 0)) (hbw : bw < w.heap.size) (htab : Lib.TabIs Tryz.prog w "internal/strconv.uint64pow10" .u64 Lib.pow10Tab) :
    Calls Tryz.prog 7 #[.pointer (some ⟨bw, 0, none⟩), .agg #[.int .i64 k, .int .i64 1, .int .i64 0, .int .i64 0, .string ⟨#[102, 105, 114, 115, 116]⟩, .int .u64 0, .int .i64 0, .int .i64 0, .int .i64 0, .int .i64 0, .int .i64 0, .int .u64 0, .int .u64 0, .int .u64 0, .int .u64 0, .int .u64 0, .string ⟨#[]⟩, .int .u64 0, .int .i64 0, .int .u64 0, .int .u64 0, .int .u64 0, .int .u64 0, .int .u64 0, .int .u64 0]] w fun e w' => e = .returned (.bool true) ∧ Below w.heap.size w w' :=
  step (opFirst k) (opFirst_ok k h0 h1) h1 bw w hm hbw htab

/-- The law's own record: no member, no list, not over; and the table. -/
structure Wld (w wr : World) : Prop where
  below : Below w.heap.size w wr
  lt : w.heap.size < wr.heap.size
  c0 : wr.cell? ⟨w.heap.size, 0, none⟩ = some (.slice none 0 0)
  c3 : wr.cell? ⟨w.heap.size, 3, none⟩ = some (.bool false)
  c4 : wr.cell? ⟨w.heap.size, 4, none⟩ = some (.slice none 0 0)
  c6 : wr.cell? ⟨w.heap.size, 6, none⟩ = some (.slice none 0 0)
  tab : Lib.TabIs Tryz.prog wr "internal/strconv.uint64pow10" .u64 Lib.pow10Tab
theorem Wld.next {w wr w1 : World} (h : Wld w wr) (hb : Below wr.heap.size wr w1) : Wld w w1 :=
  ⟨bnext h.below hb, Nat.lt_of_lt_of_le h.lt hb.size, by rw [hb.cell h.lt]; exact h.c0, by rw [hb.cell h.lt]; exact h.c3, by rw [hb.cell h.lt]; exact h.c4, by rw [hb.cell h.lt]; exact h.c6, tabIs_below h.tab hb⟩

theorem op_size0 : (Tryz.prog.info? 45).map (·.size) = some 25 := by kernel_rfl
theorem op_size (o : OpD) : (Tryz.prog.info? 45).map (·.size) = some o.cells.toList.length := op_size0
theorem range_below {w wr : World} {b o : Nat} {cs : List Value} (hb : b < w.heap.size) (h : Below w.heap.size w wr) (hr : w.rangeAt b o cs) : wr.rangeAt b o cs :=
  fun j v hv => by rw [h.cell hb]; exact hr j v hv
theorem range_kind {w : World} {b o : Nat} {x : OpD} (hr : w.rangeAt b o x.cells.toList) : w.cell? ⟨b, o, none⟩ = some (.int .i64 x.k) := hr 0 _ rfl

set_option maxRecDepth 100000 in
set_option maxHeartbeats 1000000 in
theorem playedSome (bs off len cap : Nat) (O : Nat → OpD) (hO : ∀ j, j < len → (O j).Ok) (hl : len ≤ 140737488351232) (w : World) (hbs : bs < w.heap.size)
    (hc : ∀ j, j < len → w.rangeAt bs (off + j * 25) (O j).cells.toList) (htab : Lib.TabIs Tryz.prog w "internal/strconv.uint64pow10" .u64 Lib.pow10Tab) :
    Calls Tryz.prog 6 #[.slice (some ⟨bs, off, none⟩) len cap, .int .i64 3] w fun e w' => e = .returned (.bool true) ∧ Below w.heap.size w w' := by
  have HC : Hid (∀ j, j < len → w.rangeAt bs (off + j * 25) (O j).cells.toList) := hc
  have HO : Hid (∀ j, j < len → (O j).Ok) := hO
  clear hc hO
  go_enter Tryz.func6, Tryz.ntmps6
  go_wp2
  go_loop [6, 7] (fun ok k => ok = .bool true ∧ k = .int .i64 0) (fun _ _ => 0)
  case atStart => exact ⟨rfl, rfl⟩
  case round =>
  obtain ⟨rfl, rfl⟩ := hrel
  go_wp2
  go_loopw [6, 8] (fun ok k wr => ∃ j : Nat, 1 ≤ j ∧ j ≤ 4 ∧ ok = .bool true ∧ k = .int .i64 j ∧ Hid (Wld w wr)) (fun _ k _ => 4 - (intOf k).toNat)
  case atStart =>
    refine ⟨1, by omega, by omega, rfl, rfl, ?_⟩
    exact ⟨below_alloc _ _, by simp, by rw [World.cell?_alloc_new]; rfl, by rw [World.cell?_alloc_new]; rfl, by rw [World.cell?_alloc_new]; rfl, by rw [World.cell?_alloc_new]; rfl, tabIs_below htab (below_alloc _ _)⟩
  case round =>
  obtain ⟨j, h1, h4, rfl, rfl, hW⟩ := hrel
  have c0 := hW.out.c0
  by_cases hlt : j < 4
  · go_wp2_with (go_at_call 7; refine (stepFirst _ (by omega) (by omega) _ _ c0 hW.out.lt hW.out.tab).mono ?_; rintro e w1 ⟨rfl, hb⟩)
    go_roundw
    case rel => exact ⟨j + 1, by omega, by omega, rfl, by go_num, hW.out.next hb⟩
    case measure => simp [intOf]; omega
  · go_wp2
    clear c0 h1 h4 hlt
    go_loopw [6, 9] (fun ok i wr => ∃ j : Nat, j ≤ len ∧ ok = .bool true ∧ i = .int .i64 j ∧ Hid (Wld w wr)) (fun _ i _ => len - (intOf i).toNat)
    case atStart => exact ⟨0, by omega, rfl, rfl, hW⟩
    case round =>
    clear hW
    obtain ⟨i, hi, rfl, rfl, hW⟩ := hrel
    have c0 := hW.out.c0
    have c3 := hW.out.c3
    by_cases hlt : i < len
    · have hr : Hid (World.rangeAt _ bs (off + i * 25) (O i).cells.toList) := range_below hbs hW.out.below (HC.out i hlt)
      have qk := range_kind hr.out
      by_cases hk : 3 < (O i).k
      · go_wp2
        go_roundw
        case rel => exact ⟨i + 1, by omega, rfl, by go_num, hW⟩
        case measure => simp [intOf]; omega
      · have hok := HO.out i hlt
        have hk3 : (O i).k ≤ 3 := by omega
        go_wp2_with (first
          | (go_at_call 7; refine (step (O i) hok hk3 _ _ c0 hW.out.lt hW.out.tab).mono ?_; rintro e w1 ⟨rfl, hb⟩; have hW1 := hW.out.next hb; have d4 := hW1.c4; have d6 := hW1.c6; have HW1 : Hid (Wld w w1) := hW1; clear hW1)
          | (go_at_call 8; refine (still _ _ d4 d6).mono ?_; rintro e w2 ⟨rfl, rfl⟩)
          | (refine wpList_load_mid rfl 45 _ rfl bs (off + i * 25) rfl (O i).cells.toList _ hr.out Tryz.underlying45 rfl (op_size (O i)) ?_))
        go_roundw
        case rel => exact ⟨i + 1, by omega, rfl, by go_num, HW1⟩
        case measure => simp [intOf]; omega
    · go_wp2
      go_ret
      exact ⟨rfl, hW.out.below⟩

set_option maxRecDepth 100000 in
set_option maxHeartbeats 1000000 in
theorem playedNil (a : Option Addr) (cap : Nat) (w : World) (htab : Lib.TabIs Tryz.prog w "internal/strconv.uint64pow10" .u64 Lib.pow10Tab) :
    Calls Tryz.prog 6 #[.slice a 0 cap, .int .i64 3] w fun e w' => e = .returned (.bool true) ∧ Below w.heap.size w w' := by
  go_enter Tryz.func6, Tryz.ntmps6
  go_wp2
  go_loop [6, 7] (fun ok k => ok = .bool true ∧ k = .int .i64 0) (fun _ _ => 0)
  case atStart => exact ⟨rfl, rfl⟩
  case round =>
  obtain ⟨rfl, rfl⟩ := hrel
  go_wp2
  go_loopw [6, 8] (fun ok k wr => ∃ j : Nat, 1 ≤ j ∧ j ≤ 4 ∧ ok = .bool true ∧ k = .int .i64 j ∧ Hid (Wld w wr)) (fun _ k _ => 4 - (intOf k).toNat)
  case atStart =>
    refine ⟨1, by omega, by omega, rfl, rfl, ?_⟩
    exact ⟨below_alloc _ _, by simp, by rw [World.cell?_alloc_new]; rfl, by rw [World.cell?_alloc_new]; rfl, by rw [World.cell?_alloc_new]; rfl, by rw [World.cell?_alloc_new]; rfl, tabIs_below htab (below_alloc _ _)⟩
  case round =>
  obtain ⟨j, h1, h4, rfl, rfl, hW⟩ := hrel
  have c0 := hW.out.c0
  by_cases hlt : j < 4
  · go_wp2_with (go_at_call 7; refine (stepFirst _ (by omega) (by omega) _ _ c0 hW.out.lt hW.out.tab).mono ?_; rintro e w1 ⟨rfl, hb⟩)
    go_roundw
    case rel => exact ⟨j + 1, by omega, by omega, rfl, by go_num, hW.out.next hb⟩
    case measure => simp [intOf]; omega
  · go_wp2
    clear c0 h1 h4 hlt
    go_loopw [6, 9] (fun ok i wr => ok = .bool true ∧ i = .int .i64 0 ∧ Hid (Wld w wr)) (fun _ _ _ => 0)
    case atStart => exact ⟨rfl, rfl, hW⟩
    case round =>
    clear hW
    obtain ⟨rfl, rfl, hW⟩ := hrel
    have c3 := hW.out.c3
    go_wp2
    go_ret
    exact ⟨rfl, hW.out.below⟩

theorem sealsSome (bs off len cap : Nat) (O : Nat → OpD) (hO : ∀ j, j < len → (O j).Ok) (hl : len ≤ 140737488351232) (w : World) (hbs : bs < w.heap.size)
    (hc : ∀ j, j < len → w.rangeAt bs (off + j * 25) (O j).cells.toList) (htab : Lib.TabIs Tryz.prog w "internal/strconv.uint64pow10" .u64 Lib.pow10Tab) :
    Calls Tryz.prog 3 #[.slice (some ⟨bs, off, none⟩) len cap] w fun e w' => e = .returned (.bool true) ∧ Below w.heap.size w w' := by
  have hp := playedSome bs off len cap O hO hl w hbs hc htab
  clear hO hc htab
  go_enter Tryz.func3, Tryz.ntmps3
  go_wp2_with (go_at_call 6; refine hp.mono ?_; rintro e w1 ⟨rfl, hb⟩)
  go_ret
  exact ⟨rfl, hb⟩
theorem sealsNil (a : Option Addr) (cap : Nat) (w : World) (htab : Lib.TabIs Tryz.prog w "internal/strconv.uint64pow10" .u64 Lib.pow10Tab) :
    Calls Tryz.prog 3 #[.slice a 0 cap] w fun e w' => e = .returned (.bool true) ∧ Below w.heap.size w w' := by
  have hp := playedNil a cap w htab
  clear htab
  go_enter Tryz.func3, Tryz.ntmps3
  go_wp2_with (go_at_call 6; refine hp.mono ?_; rintro e w1 ⟨rfl, hb⟩)
  go_ret
  exact ⟨rfl, hb⟩

end Go.Proofs.YtkehpnobidendaaGreatDoor
