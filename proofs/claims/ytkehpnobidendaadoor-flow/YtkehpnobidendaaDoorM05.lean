/- Number, the program's and the document's: at every block it is fnv of the text that the document names; memory below is as it was. How many seals of a certificate are right: the program's count, at every certificate. Good, the program's and the document's: at every certificate the same answer. Good of the document's own answer: at every certificate. The model: a member as plain data, and what New, Submit, Tick and Handle make of it, after the document's own words. No program in it. -/
import Derived.Test.YtkehpnobidendaaDoorM04
import Derived.Deep.RegionHeld3
import Derived.Deep.DrawnRows
namespace Go.Proofs.YtkehpnobidendaaDoor
open Go.RowKit
attribute [local go_sem ↓] Go.wp_at_zero Go.wp_at_succ

/-- A block's number. -/
def numberOf (v : Int) (u : Nat) (c : List UInt8) : Int := fnv (Lib.itoa v ++ 32 :: (Lib.decDigits u ++ 32 :: c))
theorem num_size (v : Int) (u : Nat) (c : ByteArray) (lv : (Lib.itoa v).length ≤ 21) (lu : (Lib.decDigits u).length ≤ 20) (hc : c.size ≤ 140737488351232) :
    ({ data := (Lib.itoa v).toArray } ++ { data := #[32] } ++ { data := (Lib.decDigits u).toArray } ++ { data := #[32] } ++ c : ByteArray).size ≤ 9223372036854775807 := by
  have h1 : ({ data := (Lib.itoa v).toArray } : ByteArray).size = (Lib.itoa v).length := by simp [ByteArray.size]
  have h2 : ({ data := (Lib.decDigits u).toArray } : ByteArray).size = (Lib.decDigits u).length := by simp [ByteArray.size]
  have h3 : ({ data := #[32] } : ByteArray).size = 1 := rfl
  simp only [ByteArray.size_append, h1, h2, h3]; omega
/-- Behind a call that leaves the memory below as it was, the block's box is as it was. -/
theorem nk_next {w W w1 : World} {a b c : Value} (hb : Below W.heap.size W w1)
    (h : Below w.heap.size w W ∧ w.heap.size < W.heap.size ∧ W.cell? ⟨w.heap.size, 0, none⟩ = some a ∧ W.cell? ⟨w.heap.size, 2, none⟩ = some b ∧ W.cell? ⟨w.heap.size, 7, none⟩ = some c) :
    Below w.heap.size w w1 ∧ w.heap.size < w1.heap.size ∧ w1.cell? ⟨w.heap.size, 0, none⟩ = some a ∧ w1.cell? ⟨w.heap.size, 2, none⟩ = some b ∧ w1.cell? ⟨w.heap.size, 7, none⟩ = some c := by
  obtain ⟨h1, h2, h3, h4, h5⟩ := h
  exact ⟨bnext h1 hb, Nat.lt_of_lt_of_le h2 hb.size, by rw [hb.cell h2]; exact h3, by rw [hb.cell h2]; exact h4, by rw [hb.cell h2]; exact h5⟩

theorem join3 (a b c : List UInt8) : Lib.join [a, b, c] [32] = a ++ 32 :: (b ++ 32 :: c) := by
  rw [Lib.join_cons]; simp [Lib.joinTail]
theorem get3 {α : Type} {P : Nat → α → Prop} {a b c : α} (h0 : P 0 a) (h1 : P 1 b) (h2 : P 2 c) : ∀ (j : Nat) x, [a, b, c][j]? = some x → P j x := by
  intro j x h
  match j with
  | 0 => simp at h; subst h; exact h0
  | 1 => simp at h; subst h; exact h1
  | 2 => simp at h; subst h; exact h2
  | n + 3 => simp at h
/-- Three texts in a new block. -/
theorem pwords3 (W : World) (a b : List UInt8) (c : ByteArray) (T : TypeId) (hl : a.length + b.length ≤ 1000) (hc : c.size ≤ 140737488351232) :
    Calls Tryd.prog 28 #[.slice (some ⟨W.heap.size, 0, none⟩) 3 3] (W.alloc (.cells #[.string ⟨a.toArray⟩, .string ⟨b.toArray⟩, .string c] T)) fun e w' =>
      e = .returned (.int .u64 (fnv (a ++ 32 :: (b ++ 32 :: c.data.toList)))) ∧ Below (W.alloc (.cells #[.string ⟨a.toArray⟩, .string ⟨b.toArray⟩, .string c] T)).heap.size (W.alloc (.cells #[.string ⟨a.toArray⟩, .string ⟨b.toArray⟩, .string c] T)) w' := by
  have hc' : c.data.size ≤ 140737488351232 := hc
  have h := pwords W.heap.size 0 3 [⟨a.toArray⟩, ⟨b.toArray⟩, c] (W.alloc (.cells #[.string ⟨a.toArray⟩, .string ⟨b.toArray⟩, .string c] T))
    (get3 (by rw [World.cell?_alloc_new]; rfl) (by rw [World.cell?_alloc_new]; rfl) (by rw [World.cell?_alloc_new]; rfl))
    (by simp) (by simp) (by simp) (by simp only [List.map_cons, List.map_nil]; rw [join3]; simp; omega)
  refine h.mono ?_
  rintro e w' ⟨rfl, hb⟩
  refine ⟨?_, hb⟩
  simp only [List.map_cons, List.map_nil]; rw [join3]

theorem nk_next' {w W w1 : World} {a b c : Value} {n : String} {k : IntKind} {zs : List Int} (hb : Below W.heap.size W w1)
    (h : Below w.heap.size w W ∧ w.heap.size < W.heap.size ∧ W.cell? ⟨w.heap.size, 0, none⟩ = some a ∧ W.cell? ⟨w.heap.size, 2, none⟩ = some b ∧ W.cell? ⟨w.heap.size, 7, none⟩ = some c ∧ Lib.TabIs Tryd.prog W n k zs) :
    Below w.heap.size w w1 ∧ w.heap.size < w1.heap.size ∧ w1.cell? ⟨w.heap.size, 0, none⟩ = some a ∧ w1.cell? ⟨w.heap.size, 2, none⟩ = some b ∧ w1.cell? ⟨w.heap.size, 7, none⟩ = some c ∧ Lib.TabIs Tryd.prog w1 n k zs := by
  obtain ⟨h1, h2, h3, h4, h5, h6⟩ := h
  exact ⟨bnext h1 hb, Nat.lt_of_lt_of_le h2 hb.size, by rw [hb.cell h2]; exact h3, by rw [hb.cell h2]; exact h4, by rw [hb.cell h2]; exact h5, tabIs_below h6 hb⟩
theorem below_alloc (w : World) (o : Obj) : Below w.heap.size w (w.alloc o) := (Below.refl _ _).alloc (Nat.le_refl _) _
theorem below_drew (w : World) : Below w.heap.size w w.drew := (Below.refl _ _).drew

set_option maxRecDepth 100000 in
set_option maxHeartbeats 1000000 in
theorem pnumber (v jv : Int) (u : Nat) (s0 s1 s2 s3 : Value) (c : ByteArray) (v0 : -9223372036854775808 ≤ v) (v1 : v ≤ 9223372036854775807) (hu : u < 18446744073709551616) (hc : c.size ≤ 140737488351232) (w : World)
    (htab : Lib.TabIs Tryd.prog w "internal/strconv.uint64pow10" .u64 Lib.pow10Tab) :
    Calls Tryd.prog 27 #[.agg #[.int .i64 v, .int .i64 jv, .int .u64 u, s0, s1, s2, s3, .string c]] w fun e w' => e = .returned (.int .u64 (numberOf v u c.data.toList)) ∧ Below w.heap.size w w' := by
  have lv : (Lib.itoa v).length ≤ 21 := Lib.itoa_length_le v v0 v1
  have lu : (Lib.decDigits u).length ≤ 20 := digits_len u hu
  have ht1 := fun o => tabIs_below htab (bnext (below_alloc w o) (below_drew (w.alloc o)))
  go_enter Tryd.func27, Tryd.ntmps27
  go_wp2
  go_region_held3 (fun w' => Below w.heap.size w w' ∧ w.heap.size < w'.heap.size ∧ w'.cell? ⟨w.heap.size, 0, none⟩ = some (.int .i64 v) ∧ w'.cell? ⟨w.heap.size, 2, none⟩ = some (.int .u64 u) ∧ w'.cell? ⟨w.heap.size, 7, none⟩ = some (.string c) ∧ Lib.TabIs Tryd.prog w' "internal/strconv.uint64pow10" .u64 Lib.pow10Tab)
    (first | assumption | (refine nk_next' (by first | assumption | exact below_alloc _ _) ?_; first | assumption | (refine ⟨?_, ?_, ?_, ?_, ?_, ?_⟩ <;> first | assumption | exact ht1 _ | (exact bnext (below_alloc _ _) (below_drew _)) | go_keep)) | (refine ⟨?_, ?_, ?_, ?_, ?_, ?_⟩ <;> first | assumption | exact ht1 _ | (exact bnext (below_alloc _ _) (below_drew _)) | go_keep))
    (first | (go_at_call 29; refine (itoaB _ (by assumption) (by assumption) _ ?_).mono ?_; (first | assumption | exact ht1 _); rintro e w1 ⟨rfl, hb⟩; have ht2 := tabIs_below (by first | assumption | exact ht1 _) hb) | (go_at_call 30; refine (formatUint _ (by assumption) _ ?_).mono ?_; (first | assumption | exact ht1 _); rintro e w1 ⟨rfl, hb⟩) | (go_at_call 28; refine (pwords3 _ _ _ c _ (by omega) hc).mono ?_; rintro e w1 ⟨rfl, hb⟩))
  go_wp2
  go_ret
  rename_i hHeld
  exact ⟨rfl, hHeld.1⟩

end Go.Proofs.YtkehpnobidendaaDoor

namespace Go.Proofs.YtkehpnobidendaaDoor
open Go.RowKit

/-- 1, if a seal is right. -/
def hit (v : Int) (b : Nat) (j s : Int) : Nat := if (s == sealOf j 2 v b) = true then 1 else 0
theorem hit_yes {v : Int} {b : Nat} {j s : Int} (h : (s == sealOf j 2 v b) = true) : hit v b j s = 1 := by unfold hit; rw [if_pos h]
theorem hit_no {v : Int} {b : Nat} {j s : Int} (h : (s == sealOf j 2 v b) = false) : hit v b j s = 0 := by unfold hit; rw [if_neg (by rw [h]; decide)]
/-- How many of the first k seals are right. -/
def cnt (v : Int) (b : Nat) (s0 s1 s2 s3 : Int) : Nat → Nat
  | 0 => 0
  | 1 => hit v b 0 s0
  | 2 => hit v b 0 s0 + hit v b 1 s1
  | 3 => hit v b 0 s0 + hit v b 1 s1 + hit v b 2 s2
  | _ => hit v b 0 s0 + hit v b 1 s1 + hit v b 2 s2 + hit v b 3 s3
theorem cnt_le (v : Int) (b : Nat) (s0 s1 s2 s3 : Int) (k : Nat) : cnt v b s0 s1 s2 s3 k ≤ 4 := by
  have h : ∀ j s, hit v b j s ≤ 1 := fun j s => by unfold hit; split <;> omega
  have h0 := h 0 s0; have h1 := h 1 s1; have h2 := h 2 s2; have h3 := h 3 s3
  unfold cnt; split <;> omega
/-- A certificate's box: what lies in it, and that it lies above w's memory. -/
structure Boxed (w wr : World) (v : Int) (b : Nat) (s0 s1 s2 s3 : Int) : Prop where
  below : Below w.heap.size w wr
  lt : w.heap.size < wr.heap.size
  c0 : wr.cell? ⟨w.heap.size, 0, none⟩ = some (.int .i64 v)
  c1 : wr.cell? ⟨w.heap.size, 1, none⟩ = some (.int .u64 b)
  c2 : wr.cell? ⟨w.heap.size, 2, none⟩ = some (.int .u64 s0)
  c3 : wr.cell? ⟨w.heap.size, 3, none⟩ = some (.int .u64 s1)
  c4 : wr.cell? ⟨w.heap.size, 4, none⟩ = some (.int .u64 s2)
  c5 : wr.cell? ⟨w.heap.size, 5, none⟩ = some (.int .u64 s3)
theorem Boxed.start (w : World) (v : Int) (b : Nat) (s0 s1 s2 s3 : Int) (T : TypeId) : Boxed w (w.alloc (.cells #[.int .i64 v, .int .u64 b, .int .u64 s0, .int .u64 s1, .int .u64 s2, .int .u64 s3] T)) v b s0 s1 s2 s3 :=
  ⟨below_alloc _ _, by simp, by rw [World.cell?_alloc_new]; rfl, by rw [World.cell?_alloc_new]; rfl, by rw [World.cell?_alloc_new]; rfl, by rw [World.cell?_alloc_new]; rfl, by rw [World.cell?_alloc_new]; rfl, by rw [World.cell?_alloc_new]; rfl⟩
theorem Boxed.next {w wr w1 : World} {v : Int} {b : Nat} {s0 s1 s2 s3 : Int} (h : Boxed w wr v b s0 s1 s2 s3) (hb : Below wr.heap.size wr w1) : Boxed w w1 v b s0 s1 s2 s3 :=
  ⟨bnext h.below hb, Nat.lt_of_lt_of_le h.lt hb.size, by rw [hb.cell h.lt]; exact h.c0, by rw [hb.cell h.lt]; exact h.c1, by rw [hb.cell h.lt]; exact h.c2, by rw [hb.cell h.lt]; exact h.c3, by rw [hb.cell h.lt]; exact h.c4, by rw [hb.cell h.lt]; exact h.c5⟩

theorem lt4 {k : Nat} (h : k < 4) : k = 0 ∨ k = 1 ∨ k = 2 ∨ k = 3 := by omega

set_option maxRecDepth 100000 in
set_option maxHeartbeats 1000000 in
theorem prights (v : Int) (b : Nat) (s0 s1 s2 s3 : Int) (v0 : -9223372036854775808 ≤ v) (v1 : v ≤ 9223372036854775807) (hu : b < 18446744073709551616) (w : World)
    (htab : Lib.TabIs Tryd.prog w "internal/strconv.uint64pow10" .u64 Lib.pow10Tab) :
    Calls Tryd.prog 31 #[.agg #[.int .i64 v, .int .u64 b, .int .u64 s0, .int .u64 s1, .int .u64 s2, .int .u64 s3]] w fun e w' => e = .returned (.int .i64 (cnt v b s0 s1 s2 s3 4)) ∧ Below w.heap.size w w' := by
  have i0 : ∀ w, (Instr.index 24 (.agg #[.int .u64 s0, .int .u64 s1, .int .u64 s2, .int .u64 s3]) (.int .i64 0)).run Tryd.prog w = .ok (.int .u64 s0) w := fun _ => by kernel_rfl
  have i1 : ∀ w, (Instr.index 24 (.agg #[.int .u64 s0, .int .u64 s1, .int .u64 s2, .int .u64 s3]) (.int .i64 1)).run Tryd.prog w = .ok (.int .u64 s1) w := fun _ => by kernel_rfl
  have i2 : ∀ w, (Instr.index 24 (.agg #[.int .u64 s0, .int .u64 s1, .int .u64 s2, .int .u64 s3]) (.int .i64 2)).run Tryd.prog w = .ok (.int .u64 s2) w := fun _ => by kernel_rfl
  have i3 : ∀ w, (Instr.index 24 (.agg #[.int .u64 s0, .int .u64 s1, .int .u64 s2, .int .u64 s3]) (.int .i64 3)).run Tryd.prog w = .ok (.int .u64 s3) w := fun _ => by kernel_rfl
  go_enter Tryd.func31, Tryd.ntmps31
  go_wp2
  go_loopw [3, 8] (fun n i wr => ∃ k : Nat, k ≤ 4 ∧ i = .int .i64 k ∧ n = .int .i64 (cnt v b s0 s1 s2 s3 k) ∧ Hid (Boxed w wr v b s0 s1 s2 s3) ∧ Lib.TabIs Tryd.prog wr "internal/strconv.uint64pow10" .u64 Lib.pow10Tab) (fun _ i _ => 4 - (intOf i).toNat)
  case atStart => exact ⟨0, by omega, rfl, rfl, Boxed.start _ _ _ _ _ _ _ _, tabIs_below htab (below_alloc _ _)⟩
  case round =>
    obtain ⟨k, hk, rfl, rfl, hB, htr⟩ := hrel
    have q0 := hB.out.c0
    have q1 := hB.out.c1
    have hle := cnt_le v b s0 s1 s2 s3 k
    by_cases hlt : k < 4
    · rcases lt4 hlt with rfl | rfl | rfl | rfl
      · have H : Hid (cnt v b s0 s1 s2 s3 1 = cnt v b s0 s1 s2 s3 0 + hit v b 0 s0) := (by show cnt v b s0 s1 s2 s3 1 = cnt v b s0 s1 s2 s3 0 + hit v b 0 s0; simp [cnt])
        rcases Bool.eq_false_or_eq_true (s0 == sealOf 0 2 v b) with ht | ht
        · have HH : Hid (hit v b 0 s0 = 1) := hit_yes ht
          go_wp2_with (go_at_call 11; refine (pseal _ _ _ _ (by omega) (by omega) (by omega) (by omega) v0 v1 hu _ htr).mono ?_; rintro e w1 ⟨rfl, hb⟩)
          go_roundw
          case rel => exact ⟨1, by omega, by go_num, by rw [H.out, HH.out]; go_num, hB.out.next hb, tabIs_below htr hb⟩
          case measure => simp [intOf]
        · have HH : Hid (hit v b 0 s0 = 0) := hit_no ht
          go_wp2_with (go_at_call 11; refine (pseal _ _ _ _ (by omega) (by omega) (by omega) (by omega) v0 v1 hu _ htr).mono ?_; rintro e w1 ⟨rfl, hb⟩)
          go_roundw
          case rel => exact ⟨1, by omega, by go_num, by rw [H.out, HH.out]; go_num, hB.out.next hb, tabIs_below htr hb⟩
          case measure => simp [intOf]
      · have H : Hid (cnt v b s0 s1 s2 s3 2 = cnt v b s0 s1 s2 s3 1 + hit v b 1 s1) := (by show cnt v b s0 s1 s2 s3 2 = cnt v b s0 s1 s2 s3 1 + hit v b 1 s1; simp [cnt])
        rcases Bool.eq_false_or_eq_true (s1 == sealOf 1 2 v b) with ht | ht
        · have HH : Hid (hit v b 1 s1 = 1) := hit_yes ht
          go_wp2_with (go_at_call 11; refine (pseal _ _ _ _ (by omega) (by omega) (by omega) (by omega) v0 v1 hu _ htr).mono ?_; rintro e w1 ⟨rfl, hb⟩)
          go_roundw
          case rel => exact ⟨2, by omega, by go_num, by rw [H.out, HH.out]; go_num, hB.out.next hb, tabIs_below htr hb⟩
          case measure => simp [intOf]
        · have HH : Hid (hit v b 1 s1 = 0) := hit_no ht
          go_wp2_with (go_at_call 11; refine (pseal _ _ _ _ (by omega) (by omega) (by omega) (by omega) v0 v1 hu _ htr).mono ?_; rintro e w1 ⟨rfl, hb⟩)
          go_roundw
          case rel => exact ⟨2, by omega, by go_num, by rw [H.out, HH.out]; go_num, hB.out.next hb, tabIs_below htr hb⟩
          case measure => simp [intOf]
      · have H : Hid (cnt v b s0 s1 s2 s3 3 = cnt v b s0 s1 s2 s3 2 + hit v b 2 s2) := (by show cnt v b s0 s1 s2 s3 3 = cnt v b s0 s1 s2 s3 2 + hit v b 2 s2; simp [cnt])
        rcases Bool.eq_false_or_eq_true (s2 == sealOf 2 2 v b) with ht | ht
        · have HH : Hid (hit v b 2 s2 = 1) := hit_yes ht
          go_wp2_with (go_at_call 11; refine (pseal _ _ _ _ (by omega) (by omega) (by omega) (by omega) v0 v1 hu _ htr).mono ?_; rintro e w1 ⟨rfl, hb⟩)
          go_roundw
          case rel => exact ⟨3, by omega, by go_num, by rw [H.out, HH.out]; go_num, hB.out.next hb, tabIs_below htr hb⟩
          case measure => simp [intOf]
        · have HH : Hid (hit v b 2 s2 = 0) := hit_no ht
          go_wp2_with (go_at_call 11; refine (pseal _ _ _ _ (by omega) (by omega) (by omega) (by omega) v0 v1 hu _ htr).mono ?_; rintro e w1 ⟨rfl, hb⟩)
          go_roundw
          case rel => exact ⟨3, by omega, by go_num, by rw [H.out, HH.out]; go_num, hB.out.next hb, tabIs_below htr hb⟩
          case measure => simp [intOf]
      · have H : Hid (cnt v b s0 s1 s2 s3 4 = cnt v b s0 s1 s2 s3 3 + hit v b 3 s3) := (by show cnt v b s0 s1 s2 s3 4 = cnt v b s0 s1 s2 s3 3 + hit v b 3 s3; simp [cnt])
        rcases Bool.eq_false_or_eq_true (s3 == sealOf 3 2 v b) with ht | ht
        · have HH : Hid (hit v b 3 s3 = 1) := hit_yes ht
          go_wp2_with (go_at_call 11; refine (pseal _ _ _ _ (by omega) (by omega) (by omega) (by omega) v0 v1 hu _ htr).mono ?_; rintro e w1 ⟨rfl, hb⟩)
          go_roundw
          case rel => exact ⟨4, by omega, by go_num, by rw [H.out, HH.out]; go_num, hB.out.next hb, tabIs_below htr hb⟩
          case measure => simp [intOf]
        · have HH : Hid (hit v b 3 s3 = 0) := hit_no ht
          go_wp2_with (go_at_call 11; refine (pseal _ _ _ _ (by omega) (by omega) (by omega) (by omega) v0 v1 hu _ htr).mono ?_; rintro e w1 ⟨rfl, hb⟩)
          go_roundw
          case rel => exact ⟨4, by omega, by go_num, by rw [H.out, HH.out]; go_num, hB.out.next hb, tabIs_below htr hb⟩
          case measure => simp [intOf]
    · have hk4 : k = 4 := by omega
      subst hk4
      go_wp2
      go_ret
      exact ⟨rfl, hB.out.below⟩

end Go.Proofs.YtkehpnobidendaaDoor

namespace Go.Proofs.YtkehpnobidendaaDoor
open Go.RowKit

/-- Is it the first certificate? -/
def firstB (v : Int) (b : Nat) (s0 s1 s2 s3 : Int) : Bool := v == 0 && b == 0 && (s0 == 0 && s1 == 0 && s2 == 0 && s3 == 0)
/-- Is it good? -/
def goodB (v : Int) (b : Nat) (s0 s1 s2 s3 : Int) : Bool := firstB v b s0 s1 s2 s3 || decide ((3 : Int) ≤ (cnt v b s0 s1 s2 s3 4 : Int))

theorem eq_arr (a0 a1 a2 a3 b0 b1 b2 b3 : Int) (w : World) : (Op.equalIn 9999 24 (.agg #[.int .u64 a0, .int .u64 a1, .int .u64 a2, .int .u64 a3]) (.agg #[.int .u64 b0, .int .u64 b1, .int .u64 b2, .int .u64 b3])).run Tryd.prog w = .ok (a0 == b0 && a1 == b1 && a2 == b2 && a3 == b3) w := by
  have uu := Tryd.underlying22
  have ua := Tryd.isAgg22
  have uz := Tryd.sizeOf22
  rw [show (9999 : Nat) = 9998 + 1 from rfl, Op.equalIn]
  simp only [Sem.run_bind, run_underlying Tryd.underlying24, Result.andThen_ok]
  simp only [Std.Legacy.Range.forIn_eq_forIn_range', Std.Legacy.Range.size, Nat.sub_zero, Nat.add_sub_cancel, Nat.div_one, List.range'_succ, List.range'_zero, List.forIn_cons, List.forIn_nil]
  go_simp
  by_cases h0 : a0 = b0 <;> by_cases h1 : a1 = b1 <;> by_cases h2 : a2 = b2 <;> by_cases h3 : a3 = b3 <;> simp [h0, h1, h2, h3]

theorem good_first {v : Int} {b : Nat} {s0 s1 s2 s3 : Int} (h : firstB v b s0 s1 s2 s3 = true) : goodB v b s0 s1 s2 s3 = true := by unfold goodB; rw [h]; rfl
theorem good_not {v : Int} {b : Nat} {s0 s1 s2 s3 : Int} (h : firstB v b s0 s1 s2 s3 = false) : goodB v b s0 s1 s2 s3 = decide ((3 : Int) ≤ (cnt v b s0 s1 s2 s3 4 : Int)) := by unfold goodB; rw [h]; rfl

set_option maxRecDepth 100000 in
set_option maxHeartbeats 1000000 in
theorem pgood (v : Int) (b : Nat) (s0 s1 s2 s3 : Int) (v0 : -9223372036854775808 ≤ v) (v1 : v ≤ 9223372036854775807) (hu : b < 18446744073709551616) (w : World)
    (htab : Lib.TabIs Tryd.prog w "internal/strconv.uint64pow10" .u64 Lib.pow10Tab) :
    Calls Tryd.prog 12 #[.agg #[.int .i64 v, .int .u64 b, .int .u64 s0, .int .u64 s1, .int .u64 s2, .int .u64 s3]] w fun e w' => e = .returned (.bool (goodB v b s0 s1 s2 s3)) ∧ Below w.heap.size w w' := by
  have hle := cnt_le v b s0 s1 s2 s3 4
  have htr := fun o => tabIs_below htab (below_alloc w o)
  have hr := prights v b s0 s1 s2 s3 v0 v1 hu _ (htr (.cells #[.int .i64 v, .int .u64 b, .int .u64 s0, .int .u64 s1, .int .u64 s2, .int .u64 s3] 26))
  obtain ⟨F, hF⟩ : ∃ F, F = (s0 == 0 && s1 == 0 && s2 == 0 && s3 == 0) := ⟨_, rfl⟩
  have hq : ∀ W, (Op.equalIn 9999 24 (.agg #[.int .u64 s0, .int .u64 s1, .int .u64 s2, .int .u64 s3]) (.agg #[.int .u64 0, .int .u64 0, .int .u64 0, .int .u64 0])).run Tryd.prog W = .ok F W := fun W => by rw [hF]; exact eq_arr _ _ _ _ _ _ _ _ W
  have HF : Hid (F = (s0 == 0 && s1 == 0 && s2 == 0 && s3 == 0)) := hF
  clear hF htr
  by_cases hv : v = 0
  · by_cases hbz : b = 0
    · rcases Bool.eq_false_or_eq_true F with hT | hT
      · subst hT
        have HG : Hid (goodB v b s0 s1 s2 s3 = true) := good_first (by unfold firstB; rw [← HF.out, hv, hbz]; rfl)
        clear hr
        go_enter Tryd.func12, Tryd.ntmps12
        go_wp2_with fail
        go_ret
        exact ⟨by rw [HG.out]; rfl, below_alloc _ _⟩
      · subst hT
        have HG : Hid (goodB v b s0 s1 s2 s3 = decide ((3 : Int) ≤ (cnt v b s0 s1 s2 s3 4 : Int))) := good_not (by unfold firstB; rw [← HF.out]; simp)
        subst hv
        subst hbz
        go_enter Tryd.func12, Tryd.ntmps12
        go_wp2_with (go_at_call 31; refine hr.mono ?_; rintro e w1 ⟨rfl, hb⟩)
        go_ret
        exact ⟨by rw [HG.out]; rfl, bnext (below_alloc _ _) hb⟩
    · have HG : Hid (goodB v b s0 s1 s2 s3 = decide ((3 : Int) ≤ (cnt v b s0 s1 s2 s3 4 : Int))) := good_not (by unfold firstB; simp [hbz])
      subst hv
      go_enter Tryd.func12, Tryd.ntmps12
      go_wp2_with (go_at_call 31; refine hr.mono ?_; rintro e w1 ⟨rfl, hb⟩)
      go_ret
      exact ⟨by rw [HG.out]; rfl, bnext (below_alloc _ _) hb⟩
  · have HG : Hid (goodB v b s0 s1 s2 s3 = decide ((3 : Int) ≤ (cnt v b s0 s1 s2 s3 4 : Int))) := good_not (by unfold firstB; simp [hv])
    go_enter Tryd.func12, Tryd.ntmps12
    go_wp2_with (go_at_call 31; refine hr.mono ?_; rintro e w1 ⟨rfl, hb⟩)
    go_ret
    exact ⟨by rw [HG.out]; rfl, bnext (below_alloc _ _) hb⟩

end Go.Proofs.YtkehpnobidendaaDoor

namespace Go.Proofs.YtkehpnobidendaaDoor
open Go.RowKit

end Go.Proofs.YtkehpnobidendaaDoor

namespace Go.Proofs.YtkehpnobidendaaDoor
open Go.RowKit

/-- A certificate. -/
structure Crt where
  view : Int
  block : Nat
  s0 : Int
  s1 : Int
  s2 : Int
  s3 : Int
  deriving DecidableEq
/-- A block. -/
structure Blk where
  view : Int
  just : Crt
  cmd : ByteArray
  deriving DecidableEq
/-- A message. -/
structure Msg where
  kind : Int
  fro : Int
  view : Int
  block : Blk
  number : Nat
  cert : Crt
  sl : Int
  deriving DecidableEq
/-- A letter. -/
structure Ltr where
  to : Int
  msg : Msg
  deriving DecidableEq
/-- A vote, or an Enter, that was taken. -/
structure Tk where
  fro : Int
  view : Int
  n : Nat
  sl : Int
/-- A member. -/
structure Mem where
  id : Int
  patience : Int
  view : Int
  voted : Int
  waited : Int
  high : Crt
  locked : Crt
  blocks : List (Nat × Blk)
  votes : List Tk
  enters : List Tk
  proposed : List Int
  log : List Nat
  queue : List ByteArray

def Crt.zero : Crt := ⟨0, 0, 0, 0, 0, 0⟩
def Blk.zero : Blk := ⟨0, Crt.zero, ⟨#[]⟩⟩
def Msg.zero : Msg := ⟨0, 0, 0, Blk.zero, 0, Crt.zero, 0⟩
def Crt.good (c : Crt) : Bool := goodB c.view c.block c.s0 c.s1 c.s2 c.s3
def Blk.num (b : Blk) : Nat := (numberOf b.view b.just.block b.cmd.data.toList).toNat

theorem wrap_u64_range (x : Int) : 0 ≤ IntKind.u64.wrap x ∧ IntKind.u64.wrap x < 18446744073709551616 := by
  have h : IntKind.u64.wrap x = x % 18446744073709551616 := by
    unfold IntKind.wrap
    simp only [show IntKind.u64.signed = false from rfl, show IntKind.u64.bits = 64 from rfl]
    rfl
  rw [h]; omega
theorem fnv_range (l : List UInt8) : 0 ≤ fnv l ∧ fnv l < 18446744073709551616 := by
  unfold fnv
  have : ∀ (l : List UInt8) (h : Int), (0 ≤ h ∧ h < 18446744073709551616) → 0 ≤ l.foldl hstep h ∧ l.foldl hstep h < 18446744073709551616 := by
    intro l
    induction l with
    | nil => intro h hh; exact hh
    | cons c r ih => intro h _; exact ih _ (wrap_u64_range _)
  exact this l _ (by omega)
theorem num_cast (b : Blk) : ((b.num : Nat) : Int) = numberOf b.view b.just.block b.cmd.data.toList := Int.toNat_of_nonneg (fnv_range _).1
theorem num_lt (b : Blk) : b.num < 18446744073709551616 := by
  have := (fnv_range (Lib.itoa b.view ++ 32 :: (Lib.decDigits b.just.block ++ 32 :: b.cmd.data.toList))).2
  have h := num_cast b
  unfold numberOf at h
  omega
theorem seal_range (m k v : Int) (u : Nat) : 0 ≤ sealOf m k v u ∧ sealOf m k v u < 18446744073709551616 := fnv_range _

/-- The block of a number, if it is known. -/
def find (n : Nat) : List (Nat × Blk) → Option Blk
  | [] => none
  | (k, b) :: r => if k = n then some b else find n r
def Mem.block (m : Mem) (n : Nat) : Option Blk := find n m.blocks
/-- The parent's number (0, where the block is not known). -/
def Mem.up (m : Mem) (n : Nat) : Nat := ((m.block n).getD Blk.zero).just.block
/-- A block is known from now on. -/
def Mem.knows (m : Mem) (b : Blk) : Mem := if (m.block b.num).isSome then m else { m with blocks := m.blocks ++ [(b.num, b)] }
/-- Is a block this one, or among those ahead of it? (So many steps at most.) -/
def Mem.above (m : Mem) (old : Nat) : Nat → Nat → Bool
  | 0, _ => false
  | f + 1, n => if n = old then true else if n = 0 then false else m.above old f (m.up n)
def Mem.logged (m : Mem) (n : Nat) : Bool := m.log.contains n || n == 0
/-- From a block on, those that are not in the log, the newest first. (So many steps at most.) -/
def Mem.more (m : Mem) : Nat → Nat → List Nat
  | 0, _ => []
  | f + 1, n => n :: (if m.logged (m.up n) then [] else m.more f (m.up n))
/-- The third block is committed, if it may be. -/
def Mem.commit (m : Mem) (b : Blk) : Mem :=
  let p := (m.block b.just.block).getD Blk.zero
  let d := p.just.block
  let o := (m.block d).getD Blk.zero
  if m.logged d || b.view != p.view + 1 || p.view != o.view + 1 then m
  else if !m.log.isEmpty && !m.above (m.log.getLastD 0) (m.blocks.length + 1) d then m
  else { m with log := m.log ++ (m.more (m.blocks.length + 1) d).reverse }
/-- To learn of a certificate. -/
def Mem.learn (m : Mem) (c : Crt) : Mem :=
  let m := if c.view > m.high.view then { m with high := c } else m
  if c.block = 0 then m else
  let b := (m.block c.block).getD Blk.zero
  let m := if b.just.view > m.locked.view then { m with locked := b.just } else m
  if b.just.block = 0 then m else m.commit b
/-- To enter a view. -/
def Mem.enter (m : Mem) (v : Int) : Mem := { m with view := v, waited := 0 }
/-- May it propose? -/
def Mem.may (m : Mem) : Bool := m.view % 4 == m.id && !m.proposed.contains m.view && (m.high.view == m.view - 1 || decide (3 ≤ (m.enters.filter (fun t => t.view == m.view)).length))
/-- The block that it proposes. -/
def Mem.next (m : Mem) : Blk := ⟨m.view, m.high, m.queue.headD ⟨#[]⟩⟩
/-- A call ends: it proposes, if it may. -/
def Mem.ends (m : Mem) : Mem × List Ltr :=
  if m.may then
    let b := m.next
    let m1 : Mem := { m with queue := m.queue.tail, proposed := m.proposed ++ [m.view] }
    (m1.knows b, [⟨-1, { Msg.zero with kind := 1, fro := m.id, view := m.view, block := b, sl := sealOf m.id 1 m.view b.num }⟩])
  else (m, [])
/-- New. -/
def Mem.new (id patience : Int) : Mem := ⟨id, patience, 1, 0, 0, Crt.zero, Crt.zero, [(0, Blk.zero)], [], [], [], [], []⟩
/-- Submit. -/
def Mem.submit (m : Mem) (c : ByteArray) : Mem × Int :=
  if 16 < c.size then (m, 1) else if 8 ≤ m.queue.length then (m, 6) else ({ m with queue := m.queue ++ [c] }, 0)
/-- Log. -/
def Mem.commands (m : Mem) : List ByteArray := m.log.map fun n => ((m.block n).getD Blk.zero).cmd
/-- Its Enter. -/
def Mem.enterLtr (m : Mem) : Ltr := ⟨m.view % 4, { Msg.zero with kind := 3, fro := m.id, view := m.view, cert := m.high, sl := sealOf m.id 3 m.view 0 }⟩
/-- Tick, ahead of its end. -/
def Mem.wait (m : Mem) : Mem × List Ltr :=
  let m1 : Mem := { m with waited := m.waited + 1 }
  if m1.patience ≤ m1.waited ∧ m1.view < 1000 then
    let m2 := m1.enter (m1.view + 1)
    (m2, [m2.enterLtr])
  else (m1, [])
def Mem.tick (m : Mem) : Mem × List Ltr := ((m.wait.1.ends).1, m.wait.2 ++ (m.wait.1.ends).2)
/-- P6. -/
def Mem.proposal (m : Mem) (x : Msg) : Mem × List Ltr × Int :=
  let b := x.block
  if x.view < 1 ∨ 1000 < x.view ∨ x.fro ≠ x.view % 4 ∨ b.view ≠ x.view ∨ 16 < b.cmd.size ∨ b.just.view < 0 ∨ x.view ≤ b.just.view then (m, [], 1)
  else if x.sl ≠ sealOf x.fro 1 x.view b.num ∨ b.just.good = false then (m, [], 2)
  else match m.block b.just.block with
  | none => (m, [], 3)
  | some p =>
    if p.view ≠ b.just.view then (m, [], 3)
    else if x.view < m.view ∨ x.view ≤ m.voted then (m, [], 4)
    else
      let m1 := (m.knows b).learn b.just
      let m2 := if m1.above m1.locked.block (m1.blocks.length + 1) b.just.block || decide (m1.locked.view < b.just.view) then ({ m1 with voted := x.view }, [(⟨(x.view + 1) % 4, { Msg.zero with kind := 2, fro := m.id, view := x.view, number := b.num, sl := sealOf m.id 2 x.view b.num }⟩ : Ltr)]) else (m1, [])
      (m2.1.enter (if x.view < 1000 then x.view + 1 else x.view), m2.2, 0)
/-- A seal is put into a certificate. -/
def Crt.put (c : Crt) (i : Int) (s : Int) : Crt := if i = 0 then { c with s0 := s } else if i = 1 then { c with s1 := s } else if i = 2 then { c with s2 := s } else { c with s3 := s }
/-- The votes for a block that were taken. -/
def Mem.votesFor (m : Mem) (n : Nat) : List Tk := m.votes.filter (fun t => t.n == n)
/-- P7, a Vote. -/
def Mem.vote (m : Mem) (x : Msg) : Mem × Int :=
  if x.fro < 0 ∨ 3 < x.fro ∨ x.view < 1 ∨ 999 < x.view ∨ m.id ≠ (x.view + 1) % 4 then (m, 1)
  else if x.sl ≠ sealOf x.fro 2 x.view x.number then (m, 2)
  else match m.block x.number with
  | none => (m, 3)
  | some b =>
    if b.view ≠ x.view then (m, 3)
    else if x.view < m.view - 1 ∨ x.view ≤ m.high.view then (m, 4)
    else if (m.votesFor x.number).any (fun t => t.fro == x.fro) then (m, 5)
    else
      let c := ((m.votesFor x.number).foldl (fun (c : Crt) t => c.put t.fro t.sl) { Crt.zero with view := x.view, block := x.number }).put x.fro x.sl
      let m1 : Mem := { m with votes := m.votes ++ [⟨x.fro, x.view, x.number, x.sl⟩] }
      if 3 ≤ (m.votesFor x.number).length + 1 then
        let m2 := m1.learn c
        (if m2.view ≤ x.view then m2.enter (x.view + 1) else m2, 0)
      else (m1, 0)
/-- P7, an Enter. -/
def Mem.enters1 (m : Mem) (x : Msg) : Mem × Int :=
  if x.fro < 0 ∨ 3 < x.fro ∨ x.view < 1 ∨ 1000 < x.view ∨ m.id ≠ x.view % 4 ∨ x.cert.view < 0 ∨ x.view ≤ x.cert.view then (m, 1)
  else if x.sl ≠ sealOf x.fro 3 x.view 0 ∨ x.cert.good = false then (m, 2)
  else match m.block x.cert.block with
  | none => (m, 3)
  | some b =>
    if b.view ≠ x.cert.view then (m, 3)
    else if x.view < m.view then (m, 4)
    else if (m.enters.filter (fun t => t.view == x.view)).any (fun t => t.fro == x.fro) then (m, 5)
    else
      let m1 := ({ m with enters := m.enters ++ [⟨x.fro, x.view, 0, 0⟩] } : Mem).learn x.cert
      (if 3 ≤ (m.enters.filter (fun t => t.view == x.view)).length + 1 ∧ m1.view < x.view then m1.enter x.view else m1, 0)
/-- P5, ahead of its end. -/
def Mem.takes (m : Mem) (x : Msg) : Mem × List Ltr × Int :=
  if x.kind = 1 then m.proposal x
  else if x.kind = 2 then ((m.vote x).1, [], (m.vote x).2)
  else if x.kind = 3 then ((m.enters1 x).1, [], (m.enters1 x).2)
  else (m, [], 1)
/-- Handle. -/
def Mem.handle (m : Mem) (x : Msg) : Mem × List Ltr × Int :=
  ((m.takes x).1.ends.1, (m.takes x).2.1 ++ (m.takes x).1.ends.2, (m.takes x).2.2)
end Go.Proofs.YtkehpnobidendaaDoor
