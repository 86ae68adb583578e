/- Number, the program's and the document's: at every block it is fnv of the text that the document names; memory below is as it was. How many seals of a certificate are right: the program's count, at every certificate. Good, the program's and the document's: at every certificate the same answer. Good of the document's own answer: at every certificate. The law's own step 'right': whatever the bits, it gives a certificate of the same view and block; memory below is as it was. The law's steps on no member (plain): at every Seal, Number and Good the program answers as the document does. One step of a script whose kind is below the members' kinds, and the look at lists of which there are none: both answer true. -/
import Derived.Test.YtkehpnobidendaaGreatDoorM04
import Derived.Deep.RegionHeld3
import Derived.Deep.DrawnRows
namespace Go.Proofs.YtkehpnobidendaaGreatDoor
open Go.RowKit
attribute [local go_sem ↓] Go.wp_at_zero Go.wp_at_succ

/-- A block's number. -/
def numberOf (v : Int) (u : Nat) (c : List UInt8) : Int := fnv (Lib.itoa v ++ 32 :: (Lib.decDigits u ++ 32 :: c))
theorem num_size (v : Int) (u : Nat) (c : ByteArray) (lv : (Lib.itoa v).length ≤ 21) (lu : (Lib.decDigits u).length ≤ 20) (hc : c.size ≤ 140737488351232) :
    ({ data := (Lib.itoa v).toArray } ++ { data := #[32] } ++ { data := (Lib.decDigits u).toArray } ++ { data := #[32] } ++ c : ByteArray).size ≤ 9223372036854775807 := by
  have h1 : ({ data := (Lib.itoa v).toArray } : ByteArray).size = (Lib.itoa v).length := by simp [ByteArray.size]
  have h2 : ({ data := (Lib.decDigits u).toArray } : ByteArray).size = (Lib.decDigits u).length := by simp [ByteArray.size]
  have h3 : ({ data := #[32] } : ByteArray).size = 1 := rfl
  simp only [ByteArray.size_append, h1, h2, h3]; omega
/-- Behind a call that leaves the memory below as it was, the block's box is as it was. -/
theorem nk_next {w W w1 : World} {a b c : Value} (hb : Below W.heap.size W w1)
    (h : Below w.heap.size w W ∧ w.heap.size < W.heap.size ∧ W.cell? ⟨w.heap.size, 0, none⟩ = some a ∧ W.cell? ⟨w.heap.size, 2, none⟩ = some b ∧ W.cell? ⟨w.heap.size, 7, none⟩ = some c) :
    Below w.heap.size w w1 ∧ w.heap.size < w1.heap.size ∧ w1.cell? ⟨w.heap.size, 0, none⟩ = some a ∧ w1.cell? ⟨w.heap.size, 2, none⟩ = some b ∧ w1.cell? ⟨w.heap.size, 7, none⟩ = some c := by
  obtain ⟨h1, h2, h3, h4, h5⟩ := h
  exact ⟨bnext h1 hb, Nat.lt_of_lt_of_le h2 hb.size, by rw [hb.cell h2]; exact h3, by rw [hb.cell h2]; exact h4, by rw [hb.cell h2]; exact h5⟩

set_option maxRecDepth 100000 in
set_option maxHeartbeats 1000000 in
theorem rnumber (v jv : Int) (u : Nat) (s0 s1 s2 s3 : Value) (c : ByteArray) (v0 : -9223372036854775808 ≤ v) (v1 : v ≤ 9223372036854775807) (hu : u < 18446744073709551616) (hc : c.size ≤ 140737488351232) (w : World) :
    Calls Tryz.prog 27 #[.agg #[.int .i64 v, .int .i64 jv, .int .u64 u, s0, s1, s2, s3, .string c]] w fun e w' => e = .returned (.int .u64 (numberOf v u c.data.toList)) ∧ Below w.heap.size w w' := by
  have lv : (Lib.itoa v).length ≤ 21 := Lib.itoa_length_le v v0 v1
  have lu : (Lib.decDigits u).length ≤ 20 := digits_len u hu
  have g1 : ¬ (9223372036854775807 < (Lib.itoa v).length + 1) := by omega
  have g2 : ¬ (9223372036854775807 < (Lib.itoa v).length + 1 + (Lib.decDigits u).length) := by omega
  have g3 : ¬ (9223372036854775807 < (Lib.itoa v).length + 1 + (Lib.decDigits u).length + 1) := by omega
  have g4 : ¬ (9223372036854775807 < (Lib.itoa v).length + 1 + (Lib.decDigits u).length + 1 + c.size) := by omega
  go_enter Tryz.func27, Tryz.ntmps27
  go_wp2
  go_region_held3 (fun w' => Below w.heap.size w w' ∧ w.heap.size < w'.heap.size ∧ w'.cell? ⟨w.heap.size, 0, none⟩ = some (.int .i64 v) ∧ w'.cell? ⟨w.heap.size, 2, none⟩ = some (.int .u64 u) ∧ w'.cell? ⟨w.heap.size, 7, none⟩ = some (.string c))
    (first | (refine nk_next (by assumption) ?_; refine ⟨?_, ?_, ?_, ?_, ?_⟩ <;> first | assumption | (exact ((Below.refl _ _).alloc (Nat.le_refl _) _).drew) | go_keep) | (refine ⟨?_, ?_, ?_, ?_, ?_⟩ <;> first | assumption | (exact ((Below.refl _ _).alloc (Nat.le_refl _) _).drew) | (exact (Below.refl _ _).alloc (Nat.le_refl _) _) | go_keep))
    (first | (go_at_call 51; refine (rsigned _ (by assumption) (by assumption) _).mono ?_; rintro e w1 ⟨rfl, hb⟩) | (go_at_call 52; refine (rdigits _ (by assumption) _).mono ?_; rintro e w1 ⟨rfl, hb⟩) | (go_at_call 50; refine (rhash _ _ (num_size v u c lv lu hc)).mono ?_; rintro e w1 ⟨rfl, rfl⟩))
  go_wp2
  go_ret
  rename_i hHeld
  exact ⟨by simp [numberOf], hHeld.1⟩

theorem join3 (a b c : List UInt8) : Lib.join [a, b, c] [32] = a ++ 32 :: (b ++ 32 :: c) := by
  rw [Lib.join_cons]; simp [Lib.joinTail]
theorem get3 {α : Type} {P : Nat → α → Prop} {a b c : α} (h0 : P 0 a) (h1 : P 1 b) (h2 : P 2 c) : ∀ (j : Nat) x, [a, b, c][j]? = some x → P j x := by
  intro j x h
  match j with
  | 0 => simp at h; subst h; exact h0
  | 1 => simp at h; subst h; exact h1
  | 2 => simp at h; subst h; exact h2
  | n + 3 => simp at h
/-- Three texts in a new block. -/
theorem pwords3 (W : World) (a b : List UInt8) (c : ByteArray) (T : TypeId) (hl : a.length + b.length ≤ 1000) (hc : c.size ≤ 140737488351232) :
    Calls Tryz.prog 47 #[.slice (some ⟨W.heap.size, 0, none⟩) 3 3] (W.alloc (.cells #[.string ⟨a.toArray⟩, .string ⟨b.toArray⟩, .string c] T)) fun e w' =>
      e = .returned (.int .u64 (fnv (a ++ 32 :: (b ++ 32 :: c.data.toList)))) ∧ Below (W.alloc (.cells #[.string ⟨a.toArray⟩, .string ⟨b.toArray⟩, .string c] T)).heap.size (W.alloc (.cells #[.string ⟨a.toArray⟩, .string ⟨b.toArray⟩, .string c] T)) w' := by
  have hc' : c.data.size ≤ 140737488351232 := hc
  have h := pwords W.heap.size 0 3 [⟨a.toArray⟩, ⟨b.toArray⟩, c] (W.alloc (.cells #[.string ⟨a.toArray⟩, .string ⟨b.toArray⟩, .string c] T))
    (get3 (by rw [World.cell?_alloc_new]; rfl) (by rw [World.cell?_alloc_new]; rfl) (by rw [World.cell?_alloc_new]; rfl))
    (by simp) (by simp) (by simp) (by simp only [List.map_cons, List.map_nil]; rw [join3]; simp; omega)
  refine h.mono ?_
  rintro e w' ⟨rfl, hb⟩
  refine ⟨?_, hb⟩
  simp only [List.map_cons, List.map_nil]; rw [join3]

theorem nk_next' {w W w1 : World} {a b c : Value} {n : String} {k : IntKind} {zs : List Int} (hb : Below W.heap.size W w1)
    (h : Below w.heap.size w W ∧ w.heap.size < W.heap.size ∧ W.cell? ⟨w.heap.size, 0, none⟩ = some a ∧ W.cell? ⟨w.heap.size, 2, none⟩ = some b ∧ W.cell? ⟨w.heap.size, 7, none⟩ = some c ∧ Lib.TabIs Tryz.prog W n k zs) :
    Below w.heap.size w w1 ∧ w.heap.size < w1.heap.size ∧ w1.cell? ⟨w.heap.size, 0, none⟩ = some a ∧ w1.cell? ⟨w.heap.size, 2, none⟩ = some b ∧ w1.cell? ⟨w.heap.size, 7, none⟩ = some c ∧ Lib.TabIs Tryz.prog w1 n k zs := by
  obtain ⟨h1, h2, h3, h4, h5, h6⟩ := h
  exact ⟨bnext h1 hb, Nat.lt_of_lt_of_le h2 hb.size, by rw [hb.cell h2]; exact h3, by rw [hb.cell h2]; exact h4, by rw [hb.cell h2]; exact h5, tabIs_below h6 hb⟩
theorem below_alloc (w : World) (o : Obj) : Below w.heap.size w (w.alloc o) := (Below.refl _ _).alloc (Nat.le_refl _) _
theorem below_drew (w : World) : Below w.heap.size w w.drew := (Below.refl _ _).drew

set_option maxRecDepth 100000 in
set_option maxHeartbeats 1000000 in
theorem pnumber (v jv : Int) (u : Nat) (s0 s1 s2 s3 : Value) (c : ByteArray) (v0 : -9223372036854775808 ≤ v) (v1 : v ≤ 9223372036854775807) (hu : u < 18446744073709551616) (hc : c.size ≤ 140737488351232) (w : World)
    (htab : Lib.TabIs Tryz.prog w "internal/strconv.uint64pow10" .u64 Lib.pow10Tab) :
    Calls Tryz.prog 26 #[.agg #[.int .i64 v, .int .i64 jv, .int .u64 u, s0, s1, s2, s3, .string c]] w fun e w' => e = .returned (.int .u64 (numberOf v u c.data.toList)) ∧ Below w.heap.size w w' := by
  have lv : (Lib.itoa v).length ≤ 21 := Lib.itoa_length_le v v0 v1
  have lu : (Lib.decDigits u).length ≤ 20 := digits_len u hu
  have ht1 := fun o => tabIs_below htab (bnext (below_alloc w o) (below_drew (w.alloc o)))
  go_enter Tryz.func26, Tryz.ntmps26
  go_wp2
  go_region_held3 (fun w' => Below w.heap.size w w' ∧ w.heap.size < w'.heap.size ∧ w'.cell? ⟨w.heap.size, 0, none⟩ = some (.int .i64 v) ∧ w'.cell? ⟨w.heap.size, 2, none⟩ = some (.int .u64 u) ∧ w'.cell? ⟨w.heap.size, 7, none⟩ = some (.string c) ∧ Lib.TabIs Tryz.prog w' "internal/strconv.uint64pow10" .u64 Lib.pow10Tab)
    (first | assumption | (refine nk_next' (by first | assumption | exact below_alloc _ _) ?_; first | assumption | (refine ⟨?_, ?_, ?_, ?_, ?_, ?_⟩ <;> first | assumption | exact ht1 _ | (exact bnext (below_alloc _ _) (below_drew _)) | go_keep)) | (refine ⟨?_, ?_, ?_, ?_, ?_, ?_⟩ <;> first | assumption | exact ht1 _ | (exact bnext (below_alloc _ _) (below_drew _)) | go_keep))
    (first | (go_at_call 48; refine (itoaB _ (by assumption) (by assumption) _ ?_).mono ?_; (first | assumption | exact ht1 _); rintro e w1 ⟨rfl, hb⟩; have ht2 := tabIs_below (by first | assumption | exact ht1 _) hb) | (go_at_call 49; refine (formatUint _ (by assumption) _ ?_).mono ?_; (first | assumption | exact ht1 _); rintro e w1 ⟨rfl, hb⟩) | (go_at_call 47; refine (pwords3 _ _ _ c _ (by omega) hc).mono ?_; rintro e w1 ⟨rfl, hb⟩))
  go_wp2
  go_ret
  rename_i hHeld
  exact ⟨rfl, hHeld.1⟩

end Go.Proofs.YtkehpnobidendaaGreatDoor

namespace Go.Proofs.YtkehpnobidendaaGreatDoor
open Go.RowKit

/-- 1, if a seal is right. -/
def hit (v : Int) (b : Nat) (j s : Int) : Nat := if (s == sealOf j 2 v b) = true then 1 else 0
theorem hit_yes {v : Int} {b : Nat} {j s : Int} (h : (s == sealOf j 2 v b) = true) : hit v b j s = 1 := by unfold hit; rw [if_pos h]
theorem hit_no {v : Int} {b : Nat} {j s : Int} (h : (s == sealOf j 2 v b) = false) : hit v b j s = 0 := by unfold hit; rw [if_neg (by rw [h]; decide)]
/-- How many of the first k seals are right. -/
def cnt (v : Int) (b : Nat) (s0 s1 s2 s3 : Int) : Nat → Nat
  | 0 => 0
  | 1 => hit v b 0 s0
  | 2 => hit v b 0 s0 + hit v b 1 s1
  | 3 => hit v b 0 s0 + hit v b 1 s1 + hit v b 2 s2
  | _ => hit v b 0 s0 + hit v b 1 s1 + hit v b 2 s2 + hit v b 3 s3
theorem cnt_le (v : Int) (b : Nat) (s0 s1 s2 s3 : Int) (k : Nat) : cnt v b s0 s1 s2 s3 k ≤ 4 := by
  have h : ∀ j s, hit v b j s ≤ 1 := fun j s => by unfold hit; split <;> omega
  have h0 := h 0 s0; have h1 := h 1 s1; have h2 := h 2 s2; have h3 := h 3 s3
  unfold cnt; split <;> omega
/-- A certificate's box: what lies in it, and that it lies above w's memory. -/
structure Boxed (w wr : World) (v : Int) (b : Nat) (s0 s1 s2 s3 : Int) : Prop where
  below : Below w.heap.size w wr
  lt : w.heap.size < wr.heap.size
  c0 : wr.cell? ⟨w.heap.size, 0, none⟩ = some (.int .i64 v)
  c1 : wr.cell? ⟨w.heap.size, 1, none⟩ = some (.int .u64 b)
  c2 : wr.cell? ⟨w.heap.size, 2, none⟩ = some (.int .u64 s0)
  c3 : wr.cell? ⟨w.heap.size, 3, none⟩ = some (.int .u64 s1)
  c4 : wr.cell? ⟨w.heap.size, 4, none⟩ = some (.int .u64 s2)
  c5 : wr.cell? ⟨w.heap.size, 5, none⟩ = some (.int .u64 s3)
theorem Boxed.start (w : World) (v : Int) (b : Nat) (s0 s1 s2 s3 : Int) (T : TypeId) : Boxed w (w.alloc (.cells #[.int .i64 v, .int .u64 b, .int .u64 s0, .int .u64 s1, .int .u64 s2, .int .u64 s3] T)) v b s0 s1 s2 s3 :=
  ⟨below_alloc _ _, by simp, by rw [World.cell?_alloc_new]; rfl, by rw [World.cell?_alloc_new]; rfl, by rw [World.cell?_alloc_new]; rfl, by rw [World.cell?_alloc_new]; rfl, by rw [World.cell?_alloc_new]; rfl, by rw [World.cell?_alloc_new]; rfl⟩
theorem Boxed.next {w wr w1 : World} {v : Int} {b : Nat} {s0 s1 s2 s3 : Int} (h : Boxed w wr v b s0 s1 s2 s3) (hb : Below wr.heap.size wr w1) : Boxed w w1 v b s0 s1 s2 s3 :=
  ⟨bnext h.below hb, Nat.lt_of_lt_of_le h.lt hb.size, by rw [hb.cell h.lt]; exact h.c0, by rw [hb.cell h.lt]; exact h.c1, by rw [hb.cell h.lt]; exact h.c2, by rw [hb.cell h.lt]; exact h.c3, by rw [hb.cell h.lt]; exact h.c4, by rw [hb.cell h.lt]; exact h.c5⟩

theorem lt4 {k : Nat} (h : k < 4) : k = 0 ∨ k = 1 ∨ k = 2 ∨ k = 3 := by omega

set_option maxRecDepth 100000 in
set_option maxHeartbeats 1000000 in
theorem prights (v : Int) (b : Nat) (s0 s1 s2 s3 : Int) (v0 : -9223372036854775808 ≤ v) (v1 : v ≤ 9223372036854775807) (hu : b < 18446744073709551616) (w : World)
    (htab : Lib.TabIs Tryz.prog w "internal/strconv.uint64pow10" .u64 Lib.pow10Tab) :
    Calls Tryz.prog 53 #[.agg #[.int .i64 v, .int .u64 b, .int .u64 s0, .int .u64 s1, .int .u64 s2, .int .u64 s3]] w fun e w' => e = .returned (.int .i64 (cnt v b s0 s1 s2 s3 4)) ∧ Below w.heap.size w w' := by
  have i0 : ∀ w, (Instr.index 37 (.agg #[.int .u64 s0, .int .u64 s1, .int .u64 s2, .int .u64 s3]) (.int .i64 0)).run Tryz.prog w = .ok (.int .u64 s0) w := fun _ => by kernel_rfl
  have i1 : ∀ w, (Instr.index 37 (.agg #[.int .u64 s0, .int .u64 s1, .int .u64 s2, .int .u64 s3]) (.int .i64 1)).run Tryz.prog w = .ok (.int .u64 s1) w := fun _ => by kernel_rfl
  have i2 : ∀ w, (Instr.index 37 (.agg #[.int .u64 s0, .int .u64 s1, .int .u64 s2, .int .u64 s3]) (.int .i64 2)).run Tryz.prog w = .ok (.int .u64 s2) w := fun _ => by kernel_rfl
  have i3 : ∀ w, (Instr.index 37 (.agg #[.int .u64 s0, .int .u64 s1, .int .u64 s2, .int .u64 s3]) (.int .i64 3)).run Tryz.prog w = .ok (.int .u64 s3) w := fun _ => by kernel_rfl
  go_enter Tryz.func53, Tryz.ntmps53
  go_wp2
  go_loopw [3, 8] (fun n i wr => ∃ k : Nat, k ≤ 4 ∧ i = .int .i64 k ∧ n = .int .i64 (cnt v b s0 s1 s2 s3 k) ∧ Hid (Boxed w wr v b s0 s1 s2 s3) ∧ Lib.TabIs Tryz.prog wr "internal/strconv.uint64pow10" .u64 Lib.pow10Tab) (fun _ i _ => 4 - (intOf i).toNat)
  case atStart => exact ⟨0, by omega, rfl, rfl, Boxed.start _ _ _ _ _ _ _ _, tabIs_below htab (below_alloc _ _)⟩
  case round =>
    obtain ⟨k, hk, rfl, rfl, hB, htr⟩ := hrel
    have q0 := hB.out.c0
    have q1 := hB.out.c1
    have hle := cnt_le v b s0 s1 s2 s3 k
    by_cases hlt : k < 4
    · rcases lt4 hlt with rfl | rfl | rfl | rfl
      · have H : Hid (cnt v b s0 s1 s2 s3 1 = cnt v b s0 s1 s2 s3 0 + hit v b 0 s0) := (by show cnt v b s0 s1 s2 s3 1 = cnt v b s0 s1 s2 s3 0 + hit v b 0 s0; simp [cnt])
        rcases Bool.eq_false_or_eq_true (s0 == sealOf 0 2 v b) with ht | ht
        · have HH : Hid (hit v b 0 s0 = 1) := hit_yes ht
          go_wp2_with (go_at_call 24; refine (pseal _ _ _ _ (by omega) (by omega) (by omega) (by omega) v0 v1 hu _ htr).mono ?_; rintro e w1 ⟨rfl, hb⟩)
          go_roundw
          case rel => exact ⟨1, by omega, by go_num, by rw [H.out, HH.out]; go_num, hB.out.next hb, tabIs_below htr hb⟩
          case measure => simp [intOf]
        · have HH : Hid (hit v b 0 s0 = 0) := hit_no ht
          go_wp2_with (go_at_call 24; refine (pseal _ _ _ _ (by omega) (by omega) (by omega) (by omega) v0 v1 hu _ htr).mono ?_; rintro e w1 ⟨rfl, hb⟩)
          go_roundw
          case rel => exact ⟨1, by omega, by go_num, by rw [H.out, HH.out]; go_num, hB.out.next hb, tabIs_below htr hb⟩
          case measure => simp [intOf]
      · have H : Hid (cnt v b s0 s1 s2 s3 2 = cnt v b s0 s1 s2 s3 1 + hit v b 1 s1) := (by show cnt v b s0 s1 s2 s3 2 = cnt v b s0 s1 s2 s3 1 + hit v b 1 s1; simp [cnt])
        rcases Bool.eq_false_or_eq_true (s1 == sealOf 1 2 v b) with ht | ht
        · have HH : Hid (hit v b 1 s1 = 1) := hit_yes ht
          go_wp2_with (go_at_call 24; refine (pseal _ _ _ _ (by omega) (by omega) (by omega) (by omega) v0 v1 hu _ htr).mono ?_; rintro e w1 ⟨rfl, hb⟩)
          go_roundw
          case rel => exact ⟨2, by omega, by go_num, by rw [H.out, HH.out]; go_num, hB.out.next hb, tabIs_below htr hb⟩
          case measure => simp [intOf]
        · have HH : Hid (hit v b 1 s1 = 0) := hit_no ht
          go_wp2_with (go_at_call 24; refine (pseal _ _ _ _ (by omega) (by omega) (by omega) (by omega) v0 v1 hu _ htr).mono ?_; rintro e w1 ⟨rfl, hb⟩)
          go_roundw
          case rel => exact ⟨2, by omega, by go_num, by rw [H.out, HH.out]; go_num, hB.out.next hb, tabIs_below htr hb⟩
          case measure => simp [intOf]
      · have H : Hid (cnt v b s0 s1 s2 s3 3 = cnt v b s0 s1 s2 s3 2 + hit v b 2 s2) := (by show cnt v b s0 s1 s2 s3 3 = cnt v b s0 s1 s2 s3 2 + hit v b 2 s2; simp [cnt])
        rcases Bool.eq_false_or_eq_true (s2 == sealOf 2 2 v b) with ht | ht
        · have HH : Hid (hit v b 2 s2 = 1) := hit_yes ht
          go_wp2_with (go_at_call 24; refine (pseal _ _ _ _ (by omega) (by omega) (by omega) (by omega) v0 v1 hu _ htr).mono ?_; rintro e w1 ⟨rfl, hb⟩)
          go_roundw
          case rel => exact ⟨3, by omega, by go_num, by rw [H.out, HH.out]; go_num, hB.out.next hb, tabIs_below htr hb⟩
          case measure => simp [intOf]
        · have HH : Hid (hit v b 2 s2 = 0) := hit_no ht
          go_wp2_with (go_at_call 24; refine (pseal _ _ _ _ (by omega) (by omega) (by omega) (by omega) v0 v1 hu _ htr).mono ?_; rintro e w1 ⟨rfl, hb⟩)
          go_roundw
          case rel => exact ⟨3, by omega, by go_num, by rw [H.out, HH.out]; go_num, hB.out.next hb, tabIs_below htr hb⟩
          case measure => simp [intOf]
      · have H : Hid (cnt v b s0 s1 s2 s3 4 = cnt v b s0 s1 s2 s3 3 + hit v b 3 s3) := (by show cnt v b s0 s1 s2 s3 4 = cnt v b s0 s1 s2 s3 3 + hit v b 3 s3; simp [cnt])
        rcases Bool.eq_false_or_eq_true (s3 == sealOf 3 2 v b) with ht | ht
        · have HH : Hid (hit v b 3 s3 = 1) := hit_yes ht
          go_wp2_with (go_at_call 24; refine (pseal _ _ _ _ (by omega) (by omega) (by omega) (by omega) v0 v1 hu _ htr).mono ?_; rintro e w1 ⟨rfl, hb⟩)
          go_roundw
          case rel => exact ⟨4, by omega, by go_num, by rw [H.out, HH.out]; go_num, hB.out.next hb, tabIs_below htr hb⟩
          case measure => simp [intOf]
        · have HH : Hid (hit v b 3 s3 = 0) := hit_no ht
          go_wp2_with (go_at_call 24; refine (pseal _ _ _ _ (by omega) (by omega) (by omega) (by omega) v0 v1 hu _ htr).mono ?_; rintro e w1 ⟨rfl, hb⟩)
          go_roundw
          case rel => exact ⟨4, by omega, by go_num, by rw [H.out, HH.out]; go_num, hB.out.next hb, tabIs_below htr hb⟩
          case measure => simp [intOf]
    · have hk4 : k = 4 := by omega
      subst hk4
      go_wp2
      go_ret
      exact ⟨rfl, hB.out.below⟩

end Go.Proofs.YtkehpnobidendaaGreatDoor

namespace Go.Proofs.YtkehpnobidendaaGreatDoor
open Go.RowKit

/-- Is it the first certificate? -/
def firstB (v : Int) (b : Nat) (s0 s1 s2 s3 : Int) : Bool := v == 0 && b == 0 && (s0 == 0 && s1 == 0 && s2 == 0 && s3 == 0)
/-- Is it good? -/
def goodB (v : Int) (b : Nat) (s0 s1 s2 s3 : Int) : Bool := firstB v b s0 s1 s2 s3 || decide ((3 : Int) ≤ (cnt v b s0 s1 s2 s3 4 : Int))

theorem eq_arr (a0 a1 a2 a3 b0 b1 b2 b3 : Int) (w : World) : (Op.equalIn 9999 37 (.agg #[.int .u64 a0, .int .u64 a1, .int .u64 a2, .int .u64 a3]) (.agg #[.int .u64 b0, .int .u64 b1, .int .u64 b2, .int .u64 b3])).run Tryz.prog w = .ok (a0 == b0 && a1 == b1 && a2 == b2 && a3 == b3) w := by
  have uu := Tryz.underlying36
  have ua := Tryz.isAgg36
  have uz := Tryz.sizeOf36
  rw [show (9999 : Nat) = 9998 + 1 from rfl, Op.equalIn]
  simp only [Sem.run_bind, run_underlying Tryz.underlying37, Result.andThen_ok]
  simp only [Std.Legacy.Range.forIn_eq_forIn_range', Std.Legacy.Range.size, Nat.sub_zero, Nat.add_sub_cancel, Nat.div_one, List.range'_succ, List.range'_zero, List.forIn_cons, List.forIn_nil]
  go_simp
  by_cases h0 : a0 = b0 <;> by_cases h1 : a1 = b1 <;> by_cases h2 : a2 = b2 <;> by_cases h3 : a3 = b3 <;> simp [h0, h1, h2, h3]

theorem good_first {v : Int} {b : Nat} {s0 s1 s2 s3 : Int} (h : firstB v b s0 s1 s2 s3 = true) : goodB v b s0 s1 s2 s3 = true := by unfold goodB; rw [h]; rfl
theorem good_not {v : Int} {b : Nat} {s0 s1 s2 s3 : Int} (h : firstB v b s0 s1 s2 s3 = false) : goodB v b s0 s1 s2 s3 = decide ((3 : Int) ≤ (cnt v b s0 s1 s2 s3 4 : Int)) := by unfold goodB; rw [h]; rfl

set_option maxRecDepth 100000 in
set_option maxHeartbeats 1000000 in
theorem pgood (v : Int) (b : Nat) (s0 s1 s2 s3 : Int) (v0 : -9223372036854775808 ≤ v) (v1 : v ≤ 9223372036854775807) (hu : b < 18446744073709551616) (w : World)
    (htab : Lib.TabIs Tryz.prog w "internal/strconv.uint64pow10" .u64 Lib.pow10Tab) :
    Calls Tryz.prog 29 #[.agg #[.int .i64 v, .int .u64 b, .int .u64 s0, .int .u64 s1, .int .u64 s2, .int .u64 s3]] w fun e w' => e = .returned (.bool (goodB v b s0 s1 s2 s3)) ∧ Below w.heap.size w w' := by
  have hle := cnt_le v b s0 s1 s2 s3 4
  have htr := fun o => tabIs_below htab (below_alloc w o)
  have hr := prights v b s0 s1 s2 s3 v0 v1 hu _ (htr (.cells #[.int .i64 v, .int .u64 b, .int .u64 s0, .int .u64 s1, .int .u64 s2, .int .u64 s3] 39))
  obtain ⟨F, hF⟩ : ∃ F, F = (s0 == 0 && s1 == 0 && s2 == 0 && s3 == 0) := ⟨_, rfl⟩
  have hq : ∀ W, (Op.equalIn 9999 37 (.agg #[.int .u64 s0, .int .u64 s1, .int .u64 s2, .int .u64 s3]) (.agg #[.int .u64 0, .int .u64 0, .int .u64 0, .int .u64 0])).run Tryz.prog W = .ok F W := fun W => by rw [hF]; exact eq_arr _ _ _ _ _ _ _ _ W
  have HF : Hid (F = (s0 == 0 && s1 == 0 && s2 == 0 && s3 == 0)) := hF
  clear hF htr
  by_cases hv : v = 0
  · by_cases hbz : b = 0
    · rcases Bool.eq_false_or_eq_true F with hT | hT
      · subst hT
        have HG : Hid (goodB v b s0 s1 s2 s3 = true) := good_first (by unfold firstB; rw [← HF.out, hv, hbz]; rfl)
        clear hr
        go_enter Tryz.func29, Tryz.ntmps29
        go_wp2_with fail
        go_ret
        exact ⟨by rw [HG.out]; rfl, below_alloc _ _⟩
      · subst hT
        have HG : Hid (goodB v b s0 s1 s2 s3 = decide ((3 : Int) ≤ (cnt v b s0 s1 s2 s3 4 : Int))) := good_not (by unfold firstB; rw [← HF.out]; simp)
        subst hv
        subst hbz
        go_enter Tryz.func29, Tryz.ntmps29
        go_wp2_with (go_at_call 53; refine hr.mono ?_; rintro e w1 ⟨rfl, hb⟩)
        go_ret
        exact ⟨by rw [HG.out]; rfl, bnext (below_alloc _ _) hb⟩
    · have HG : Hid (goodB v b s0 s1 s2 s3 = decide ((3 : Int) ≤ (cnt v b s0 s1 s2 s3 4 : Int))) := good_not (by unfold firstB; simp [hbz])
      subst hv
      go_enter Tryz.func29, Tryz.ntmps29
      go_wp2_with (go_at_call 53; refine hr.mono ?_; rintro e w1 ⟨rfl, hb⟩)
      go_ret
      exact ⟨by rw [HG.out]; rfl, bnext (below_alloc _ _) hb⟩
  · have HG : Hid (goodB v b s0 s1 s2 s3 = decide ((3 : Int) ≤ (cnt v b s0 s1 s2 s3 4 : Int))) := good_not (by unfold firstB; simp [hv])
    go_enter Tryz.func29, Tryz.ntmps29
    go_wp2_with (go_at_call 53; refine hr.mono ?_; rintro e w1 ⟨rfl, hb⟩)
    go_ret
    exact ⟨by rw [HG.out]; rfl, bnext (below_alloc _ _) hb⟩

end Go.Proofs.YtkehpnobidendaaGreatDoor

namespace Go.Proofs.YtkehpnobidendaaGreatDoor
open Go.RowKit

set_option maxRecDepth 100000 in
set_option maxHeartbeats 1000000 in
theorem rsame (v : Int) (b : Nat) (s0 s1 s2 s3 : Int) (w : World) :
    Calls Tryz.prog 54 #[.agg #[.int .i64 v, .int .u64 b, .int .u64 s0, .int .u64 s1, .int .u64 s2, .int .u64 s3], .agg #[.int .i64 0, .int .u64 0, .int .u64 0, .int .u64 0, .int .u64 0, .int .u64 0]] w fun e w' => e = .returned (.bool (firstB v b s0 s1 s2 s3)) ∧ Below w.heap.size w w' := by
  go_enter Tryz.func54, Tryz.ntmps54
  go_wp2
  all_goals (go_ret; exact ⟨by simp [firstB, *], bnext (below_alloc _ _) (below_alloc _ _)⟩)

set_option maxRecDepth 100000 in
set_option maxHeartbeats 1000000 in
theorem rgood (v : Int) (b : Nat) (s0 s1 s2 s3 : Int) (v0 : -9223372036854775808 ≤ v) (v1 : v ≤ 9223372036854775807) (hu : b < 18446744073709551616) (w : World) :
    Calls Tryz.prog 30 #[.agg #[.int .i64 v, .int .u64 b, .int .u64 s0, .int .u64 s1, .int .u64 s2, .int .u64 s3]] w fun e w' => e = .returned (.bool (goodB v b s0 s1 s2 s3)) ∧ Below w.heap.size w w' := by
  rcases Bool.eq_false_or_eq_true (firstB v b s0 s1 s2 s3) with hT | hT
  · have HG : Hid (goodB v b s0 s1 s2 s3 = true) := good_first hT
    go_enter Tryz.func30, Tryz.ntmps30
    go_wp2_with (go_at_call 54; refine (rsame v b s0 s1 s2 s3 _).mono ?_; rintro e w1 ⟨rfl, hb⟩)
    go_ret
    exact ⟨by rw [HG.out]; rfl, bnext (below_alloc _ _) hb⟩
  · have HG : Hid (goodB v b s0 s1 s2 s3 = decide ((3 : Int) ≤ (cnt v b s0 s1 s2 s3 4 : Int))) := good_not hT
    go_enter Tryz.func30, Tryz.ntmps30
    go_wp2_with (go_at_call 54; refine (rsame v b s0 s1 s2 s3 _).mono ?_; rintro e w1 ⟨rfl, hb⟩)
    clear hT
    go_loopw [4, 5] (fun n i wr => ∃ k : Nat, k ≤ 4 ∧ i = .int .i64 k ∧ n = .int .i64 (cnt v b s0 s1 s2 s3 k) ∧ Hid (Boxed w wr v b s0 s1 s2 s3)) (fun _ i _ => 4 - (intOf i).toNat)
    case atStart => exact ⟨0, by omega, rfl, rfl, (Boxed.start _ _ _ _ _ _ _ _).next hb⟩
    case round =>
    obtain ⟨k, hk, rfl, rfl, hB⟩ := hrel
    clear hb
    have q0 := hB.out.c0
    have q1 := hB.out.c1
    have hle := cnt_le v b s0 s1 s2 s3 k
    by_cases hlt : k < 4
    · rcases lt4 hlt with rfl | rfl | rfl | rfl
      · have H : Hid (cnt v b s0 s1 s2 s3 1 = cnt v b s0 s1 s2 s3 0 + hit v b 0 s0) := (by show cnt v b s0 s1 s2 s3 1 = cnt v b s0 s1 s2 s3 0 + hit v b 0 s0; simp [cnt])
        have q2 := hB.out.c2
        rcases Bool.eq_false_or_eq_true (s0 == sealOf 0 2 v b) with ht | ht
        · have HH : Hid (hit v b 0 s0 = 1) := hit_yes ht
          go_wp2_with (go_at_call 25; refine (rseal _ _ _ _ (by omega) (by omega) (by omega) (by omega) v0 v1 hu _).mono ?_; rintro e w1 ⟨rfl, hb⟩; have q3 := (hB.out.next hb).c2)
          go_roundw
          case rel => exact ⟨1, by omega, by go_num, by rw [H.out, HH.out]; go_num, hB.out.next hb⟩
          case measure => simp [intOf]
        · have HH : Hid (hit v b 0 s0 = 0) := hit_no ht
          go_wp2_with (go_at_call 25; refine (rseal _ _ _ _ (by omega) (by omega) (by omega) (by omega) v0 v1 hu _).mono ?_; rintro e w1 ⟨rfl, hb⟩; have q3 := (hB.out.next hb).c2)
          go_roundw
          case rel => exact ⟨1, by omega, by go_num, by rw [H.out, HH.out]; go_num, hB.out.next hb⟩
          case measure => simp [intOf]
      · have H : Hid (cnt v b s0 s1 s2 s3 2 = cnt v b s0 s1 s2 s3 1 + hit v b 1 s1) := (by show cnt v b s0 s1 s2 s3 2 = cnt v b s0 s1 s2 s3 1 + hit v b 1 s1; simp [cnt])
        have q2 := hB.out.c3
        rcases Bool.eq_false_or_eq_true (s1 == sealOf 1 2 v b) with ht | ht
        · have HH : Hid (hit v b 1 s1 = 1) := hit_yes ht
          go_wp2_with (go_at_call 25; refine (rseal _ _ _ _ (by omega) (by omega) (by omega) (by omega) v0 v1 hu _).mono ?_; rintro e w1 ⟨rfl, hb⟩; have q3 := (hB.out.next hb).c3)
          go_roundw
          case rel => exact ⟨2, by omega, by go_num, by rw [H.out, HH.out]; go_num, hB.out.next hb⟩
          case measure => simp [intOf]
        · have HH : Hid (hit v b 1 s1 = 0) := hit_no ht
          go_wp2_with (go_at_call 25; refine (rseal _ _ _ _ (by omega) (by omega) (by omega) (by omega) v0 v1 hu _).mono ?_; rintro e w1 ⟨rfl, hb⟩; have q3 := (hB.out.next hb).c3)
          go_roundw
          case rel => exact ⟨2, by omega, by go_num, by rw [H.out, HH.out]; go_num, hB.out.next hb⟩
          case measure => simp [intOf]
      · have H : Hid (cnt v b s0 s1 s2 s3 3 = cnt v b s0 s1 s2 s3 2 + hit v b 2 s2) := (by show cnt v b s0 s1 s2 s3 3 = cnt v b s0 s1 s2 s3 2 + hit v b 2 s2; simp [cnt])
        have q2 := hB.out.c4
        rcases Bool.eq_false_or_eq_true (s2 == sealOf 2 2 v b) with ht | ht
        · have HH : Hid (hit v b 2 s2 = 1) := hit_yes ht
          go_wp2_with (go_at_call 25; refine (rseal _ _ _ _ (by omega) (by omega) (by omega) (by omega) v0 v1 hu _).mono ?_; rintro e w1 ⟨rfl, hb⟩; have q3 := (hB.out.next hb).c4)
          go_roundw
          case rel => exact ⟨3, by omega, by go_num, by rw [H.out, HH.out]; go_num, hB.out.next hb⟩
          case measure => simp [intOf]
        · have HH : Hid (hit v b 2 s2 = 0) := hit_no ht
          go_wp2_with (go_at_call 25; refine (rseal _ _ _ _ (by omega) (by omega) (by omega) (by omega) v0 v1 hu _).mono ?_; rintro e w1 ⟨rfl, hb⟩; have q3 := (hB.out.next hb).c4)
          go_roundw
          case rel => exact ⟨3, by omega, by go_num, by rw [H.out, HH.out]; go_num, hB.out.next hb⟩
          case measure => simp [intOf]
      · have H : Hid (cnt v b s0 s1 s2 s3 4 = cnt v b s0 s1 s2 s3 3 + hit v b 3 s3) := (by show cnt v b s0 s1 s2 s3 4 = cnt v b s0 s1 s2 s3 3 + hit v b 3 s3; simp [cnt])
        have q2 := hB.out.c5
        rcases Bool.eq_false_or_eq_true (s3 == sealOf 3 2 v b) with ht | ht
        · have HH : Hid (hit v b 3 s3 = 1) := hit_yes ht
          go_wp2_with (go_at_call 25; refine (rseal _ _ _ _ (by omega) (by omega) (by omega) (by omega) v0 v1 hu _).mono ?_; rintro e w1 ⟨rfl, hb⟩; have q3 := (hB.out.next hb).c5)
          go_roundw
          case rel => exact ⟨4, by omega, by go_num, by rw [H.out, HH.out]; go_num, hB.out.next hb⟩
          case measure => simp [intOf]
        · have HH : Hid (hit v b 3 s3 = 0) := hit_no ht
          go_wp2_with (go_at_call 25; refine (rseal _ _ _ _ (by omega) (by omega) (by omega) (by omega) v0 v1 hu _).mono ?_; rintro e w1 ⟨rfl, hb⟩; have q3 := (hB.out.next hb).c5)
          go_roundw
          case rel => exact ⟨4, by omega, by go_num, by rw [H.out, HH.out]; go_num, hB.out.next hb⟩
          case measure => simp [intOf]
    · have hk4 : k = 4 := by omega
      subst hk4
      go_wp2
      go_ret
      exact ⟨by rw [HG.out]; rfl, hB.out.below⟩

end Go.Proofs.YtkehpnobidendaaGreatDoor

namespace Go.Proofs.YtkehpnobidendaaGreatDoor
open Go.RowKit

/-- A certificate's box, and the place of the result behind it. -/
structure RBox (w wr : World) (v : Int) (b : Nat) (t0 t1 t2 t3 : Int) : Prop where
  bx : Boxed w wr v b t0 t1 t2 t3
  lt2 : w.heap.size + 1 < wr.heap.size
  fz : ∀ o, wr.frozen? ⟨w.heap.size, o, none⟩ = false
  fr : ∀ o, wr.frozen? ⟨w.heap.size + 1, o, none⟩ = false
  r : ∀ o, o < 6 → ∃ z, wr.cell? ⟨w.heap.size + 1, o, none⟩ = some z
theorem RBox.start (w : World) (v : Int) (b : Nat) (s0 s1 s2 s3 z0 z1 z2 z3 z4 z5 : Value) (a0 a1 a2 a3 : Int) (T U : TypeId) (h0 : s0 = .int .u64 a0) (h1 : s1 = .int .u64 a1) (h2 : s2 = .int .u64 a2) (h3 : s3 = .int .u64 a3) :
    RBox w ((w.alloc (.cells #[.int .i64 v, .int .u64 b, s0, s1, s2, s3] T)).alloc (.cells #[z0, z1, z2, z3, z4, z5] U)) v b a0 a1 a2 a3 := by
  subst h0 h1 h2 h3
  refine ⟨(Boxed.start w v b a0 a1 a2 a3 T).next (below_alloc _ _), by simp, fun o => by simp, fun o => by simp, fun o ho => ?_⟩
  rw [World.cell?_alloc2_new]
  match o, ho with
  | 0, _ => exact ⟨_, rfl⟩
  | 1, _ => exact ⟨_, rfl⟩
  | 2, _ => exact ⟨_, rfl⟩
  | 3, _ => exact ⟨_, rfl⟩
  | 4, _ => exact ⟨_, rfl⟩
  | 5, _ => exact ⟨_, rfl⟩
theorem RBox.next {w wr w1 : World} {v : Int} {b : Nat} {t0 t1 t2 t3 : Int} (h : RBox w wr v b t0 t1 t2 t3) (hb : Below wr.heap.size wr w1) : RBox w w1 v b t0 t1 t2 t3 :=
  ⟨h.bx.next hb, Nat.lt_of_lt_of_le h.lt2 hb.size, fun o => by rw [hb.frozen h.bx.lt]; exact h.fz o, fun o => by rw [hb.frozen h.lt2]; exact h.fr o, fun o ho => by rw [hb.cell h.lt2]; exact h.r o ho⟩
theorem RBox.set0 {w wr : World} {v : Int} {b : Nat} {t0 t1 t2 t3 : Int} (h : RBox w wr v b t0 t1 t2 t3) (x : Int) : RBox w (wr.setCell ⟨w.heap.size, 2, none⟩ (.int .u64 x)) v b x t1 t2 t3 :=
  ⟨⟨h.bx.below.setCell (Nat.le_refl _) _, by rw [World.size_setCell]; exact h.bx.lt, by rw [World.cell?_setCell_other _ _ _ _ (by simp)]; exact h.bx.c0, by rw [World.cell?_setCell_other _ _ _ _ (by simp)]; exact h.bx.c1, World.cell?_setCell_same _ _ _ h.bx.c2, by rw [World.cell?_setCell_other _ _ _ _ (by simp)]; exact h.bx.c3, by rw [World.cell?_setCell_other _ _ _ _ (by simp)]; exact h.bx.c4, by rw [World.cell?_setCell_other _ _ _ _ (by simp)]; exact h.bx.c5⟩, by rw [World.size_setCell]; exact h.lt2, fun o => by rw [World.frozen?_setCell]; exact h.fz o, fun o => by rw [World.frozen?_setCell]; exact h.fr o, fun o ho => by rw [World.cell?_setCell_other _ _ _ _ (by simp)]; exact h.r o ho⟩
theorem RBox.set1 {w wr : World} {v : Int} {b : Nat} {t0 t1 t2 t3 : Int} (h : RBox w wr v b t0 t1 t2 t3) (x : Int) : RBox w (wr.setCell ⟨w.heap.size, 3, none⟩ (.int .u64 x)) v b t0 x t2 t3 :=
  ⟨⟨h.bx.below.setCell (Nat.le_refl _) _, by rw [World.size_setCell]; exact h.bx.lt, by rw [World.cell?_setCell_other _ _ _ _ (by simp)]; exact h.bx.c0, by rw [World.cell?_setCell_other _ _ _ _ (by simp)]; exact h.bx.c1, by rw [World.cell?_setCell_other _ _ _ _ (by simp)]; exact h.bx.c2, World.cell?_setCell_same _ _ _ h.bx.c3, by rw [World.cell?_setCell_other _ _ _ _ (by simp)]; exact h.bx.c4, by rw [World.cell?_setCell_other _ _ _ _ (by simp)]; exact h.bx.c5⟩, by rw [World.size_setCell]; exact h.lt2, fun o => by rw [World.frozen?_setCell]; exact h.fz o, fun o => by rw [World.frozen?_setCell]; exact h.fr o, fun o ho => by rw [World.cell?_setCell_other _ _ _ _ (by simp)]; exact h.r o ho⟩
theorem RBox.set2 {w wr : World} {v : Int} {b : Nat} {t0 t1 t2 t3 : Int} (h : RBox w wr v b t0 t1 t2 t3) (x : Int) : RBox w (wr.setCell ⟨w.heap.size, 4, none⟩ (.int .u64 x)) v b t0 t1 x t3 :=
  ⟨⟨h.bx.below.setCell (Nat.le_refl _) _, by rw [World.size_setCell]; exact h.bx.lt, by rw [World.cell?_setCell_other _ _ _ _ (by simp)]; exact h.bx.c0, by rw [World.cell?_setCell_other _ _ _ _ (by simp)]; exact h.bx.c1, by rw [World.cell?_setCell_other _ _ _ _ (by simp)]; exact h.bx.c2, by rw [World.cell?_setCell_other _ _ _ _ (by simp)]; exact h.bx.c3, World.cell?_setCell_same _ _ _ h.bx.c4, by rw [World.cell?_setCell_other _ _ _ _ (by simp)]; exact h.bx.c5⟩, by rw [World.size_setCell]; exact h.lt2, fun o => by rw [World.frozen?_setCell]; exact h.fz o, fun o => by rw [World.frozen?_setCell]; exact h.fr o, fun o ho => by rw [World.cell?_setCell_other _ _ _ _ (by simp)]; exact h.r o ho⟩
theorem RBox.set3 {w wr : World} {v : Int} {b : Nat} {t0 t1 t2 t3 : Int} (h : RBox w wr v b t0 t1 t2 t3) (x : Int) : RBox w (wr.setCell ⟨w.heap.size, 5, none⟩ (.int .u64 x)) v b t0 t1 t2 x :=
  ⟨⟨h.bx.below.setCell (Nat.le_refl _) _, by rw [World.size_setCell]; exact h.bx.lt, by rw [World.cell?_setCell_other _ _ _ _ (by simp)]; exact h.bx.c0, by rw [World.cell?_setCell_other _ _ _ _ (by simp)]; exact h.bx.c1, by rw [World.cell?_setCell_other _ _ _ _ (by simp)]; exact h.bx.c2, by rw [World.cell?_setCell_other _ _ _ _ (by simp)]; exact h.bx.c3, by rw [World.cell?_setCell_other _ _ _ _ (by simp)]; exact h.bx.c4, World.cell?_setCell_same _ _ _ h.bx.c5⟩, by rw [World.size_setCell]; exact h.lt2, fun o => by rw [World.frozen?_setCell]; exact h.fz o, fun o => by rw [World.frozen?_setCell]; exact h.fr o, fun o ho => by rw [World.cell?_setCell_other _ _ _ _ (by simp)]; exact h.r o ho⟩

set_option maxRecDepth 100000 in
set_option maxHeartbeats 1000000 in
theorem lright (v : Int) (b : Nat) (s0 s1 s2 s3 : Int) (bits : Int) (v0 : -9223372036854775808 ≤ v) (v1 : v ≤ 9223372036854775807) (hu : b < 18446744073709551616) (w : World) :
    Calls Tryz.prog 28 #[.agg #[.int .i64 v, .int .u64 b, .int .u64 s0, .int .u64 s1, .int .u64 s2, .int .u64 s3], .int .i64 bits] w fun e w' => ∃ t0 t1 t2 t3 : Int, e = .returned (.agg #[.int .i64 v, .int .u64 b, .int .u64 t0, .int .u64 t1, .int .u64 t2, .int .u64 t3]) ∧ Below w.heap.size w w' := by
  go_enter Tryz.func28, Tryz.ntmps28
  go_wp2
  go_loopw [5] (fun i wr => ∃ k : Nat, k ≤ 4 ∧ i = .int .i64 k ∧ ∃ t0 t1 t2 t3 : Int, Hid (RBox w wr v b t0 t1 t2 t3)) (fun i _ => 4 - (intOf i).toNat)
  case atStart => exact ⟨0, by omega, rfl, s0, s1, s2, s3, RBox.start w v b _ _ _ _ _ _ _ _ _ _ s0 s1 s2 s3 _ _ rfl rfl rfl rfl⟩
  case round =>
    obtain ⟨k, hk, rfl, t0, t1, t2, t3, hB⟩ := hrel
    have q0 := hB.out.bx.c0
    have q1 := hB.out.bx.c1
    by_cases hlt : k < 4
    · rcases lt4 hlt with rfl | rfl | rfl | rfl
      · have q2 := hB.out.bx.c2
        go_wp2_with (go_at_call 25; refine (rseal _ _ _ _ (by omega) (by omega) (by omega) (by omega) v0 v1 hu _).mono ?_; rintro e w1 ⟨rfl, hb⟩; have q3 := (hB.out.next hb).bx.c2; have q4 := (hB.out.next hb).fz 2; have q5 := hB.out.next hb; have q6 : Hid _ := q5; clear q5)
        · go_roundw
          case rel => exact ⟨1, by omega, by go_num, (sealOf 0 2 v b), t1, t2, t3, q6.out.set0 _⟩
          case measure => simp [intOf]
        · go_roundw
          case rel => exact ⟨1, by omega, by go_num, t0, t1, t2, t3, hB⟩
          case measure => simp [intOf]
      · have q2 := hB.out.bx.c3
        go_wp2_with (go_at_call 25; refine (rseal _ _ _ _ (by omega) (by omega) (by omega) (by omega) v0 v1 hu _).mono ?_; rintro e w1 ⟨rfl, hb⟩; have q3 := (hB.out.next hb).bx.c3; have q4 := (hB.out.next hb).fz 3; have q5 := hB.out.next hb; have q6 : Hid _ := q5; clear q5)
        · go_roundw
          case rel => exact ⟨2, by omega, by go_num, t0, (sealOf 1 2 v b), t2, t3, q6.out.set1 _⟩
          case measure => simp [intOf]
        · go_roundw
          case rel => exact ⟨2, by omega, by go_num, t0, t1, t2, t3, hB⟩
          case measure => simp [intOf]
      · have q2 := hB.out.bx.c4
        go_wp2_with (go_at_call 25; refine (rseal _ _ _ _ (by omega) (by omega) (by omega) (by omega) v0 v1 hu _).mono ?_; rintro e w1 ⟨rfl, hb⟩; have q3 := (hB.out.next hb).bx.c4; have q4 := (hB.out.next hb).fz 4; have q5 := hB.out.next hb; have q6 : Hid _ := q5; clear q5)
        · go_roundw
          case rel => exact ⟨3, by omega, by go_num, t0, t1, (sealOf 2 2 v b), t3, q6.out.set2 _⟩
          case measure => simp [intOf]
        · go_roundw
          case rel => exact ⟨3, by omega, by go_num, t0, t1, t2, t3, hB⟩
          case measure => simp [intOf]
      · have q2 := hB.out.bx.c5
        go_wp2_with (go_at_call 25; refine (rseal _ _ _ _ (by omega) (by omega) (by omega) (by omega) v0 v1 hu _).mono ?_; rintro e w1 ⟨rfl, hb⟩; have q3 := (hB.out.next hb).bx.c5; have q4 := (hB.out.next hb).fz 5; have q5 := hB.out.next hb; have q6 : Hid _ := q5; clear q5)
        · go_roundw
          case rel => exact ⟨4, by omega, by go_num, t0, t1, t2, (sealOf 3 2 v b), q6.out.set3 _⟩
          case measure => simp [intOf]
        · go_roundw
          case rel => exact ⟨4, by omega, by go_num, t0, t1, t2, t3, hB⟩
          case measure => simp [intOf]
    · have hk4 : k = 4 := by omega
      subst hk4
      have q2 := hB.out.bx.c2
      have q3 := hB.out.bx.c3
      have q4 := hB.out.bx.c4
      have q5 := hB.out.bx.c5
      have hf := hB.out.fr
      obtain ⟨z0, r0⟩ := hB.out.r 0 (by omega)
      obtain ⟨z1, r1⟩ := hB.out.r 1 (by omega)
      obtain ⟨z2, r2⟩ := hB.out.r 2 (by omega)
      obtain ⟨z3, r3⟩ := hB.out.r 3 (by omega)
      obtain ⟨z4, r4⟩ := hB.out.r 4 (by omega)
      obtain ⟨z5, r5⟩ := hB.out.r 5 (by omega)
      go_wp2
      refine bodyPost_ret (v := .agg #[.int .i64 v, .int .u64 b, .int .u64 t0, .int .u64 t1, .int .u64 t2, .int .u64 t3]) (by simp [results, Tryz.results28, go_sem, r0, r1, r2, r3, r4, r5]) rfl ⟨t0, t1, t2, t3, rfl, ?_⟩
      exact (((((hB.out.bx.below.setCell (by simp) _).setCell (by simp) _).setCell (by simp) _).setCell (by simp) _).setCell (by simp) _).setCell (by simp) _

end Go.Proofs.YtkehpnobidendaaGreatDoor

namespace Go.Proofs.YtkehpnobidendaaGreatDoor
open Go.RowKit

/-- What a step's record holds, cell by cell. -/
structure OpD where
  k : Int
  on : Int
  a : Int
  b : Int
  s : ByteArray
  n : Nat
  m0 : Int
  m1 : Int
  m2 : Int
  bv : Int
  jv : Int
  jb : Nat
  j0 : Int
  j1 : Int
  j2 : Int
  j3 : Int
  c : ByteArray
  nu : Int
  cv : Int
  cb : Nat
  c0 : Int
  c1 : Int
  c2 : Int
  c3 : Int
  sl : Int
/-- What the reading says of it: numbers within their kinds, a text of a length that Go takes. -/
structure OpD.Ok (o : OpD) : Prop where
  k0 : -9223372036854775808 ≤ o.k
  k1 : o.k ≤ 9223372036854775807
  on0 : -9223372036854775808 ≤ o.on
  on1 : o.on ≤ 9223372036854775807
  a0 : -9223372036854775808 ≤ o.a
  a1 : o.a ≤ 9223372036854775807
  b0 : -9223372036854775808 ≤ o.b
  b1 : o.b ≤ 9223372036854775807
  n1 : o.n < 18446744073709551616
  bv0 : -9223372036854775808 ≤ o.bv
  bv1 : o.bv ≤ 9223372036854775807
  jb1 : o.jb < 18446744073709551616
  c1 : o.c.size ≤ 140737488351232
  cv0 : -9223372036854775808 ≤ o.cv
  cv1 : o.cv ≤ 9223372036854775807
  cb1 : o.cb < 18446744073709551616
  s1 : o.s.size ≤ 140737488351232
  m00 : -9223372036854775808 ≤ o.m0
  m01 : o.m0 ≤ 9223372036854775807
  m10 : -9223372036854775808 ≤ o.m1
  m11 : o.m1 ≤ 9223372036854775807
  m20 : -9223372036854775808 ≤ o.m2
  m21 : o.m2 ≤ 9223372036854775807
  jv0 : -9223372036854775808 ≤ o.jv
  jv1 : o.jv ≤ 9223372036854775807
  nu0 : 0 ≤ o.nu
  nu1 : o.nu < 18446744073709551616
/-- Its cells. -/
def OpD.cells (o : OpD) : Array Value := #[.int .i64 o.k, .int .i64 o.on, .int .i64 o.a, .int .i64 o.b, .string o.s, .int .u64 o.n, .int .i64 o.m0, .int .i64 o.m1, .int .i64 o.m2, .int .i64 o.bv, .int .i64 o.jv, .int .u64 o.jb, .int .u64 o.j0, .int .u64 o.j1, .int .u64 o.j2, .int .u64 o.j3, .string o.c, .int .u64 o.nu, .int .i64 o.cv, .int .u64 o.cb, .int .u64 o.c0, .int .u64 o.c1, .int .u64 o.c2, .int .u64 o.c3, .int .u64 o.sl]

theorem box_cell {w w1 : World} {C : Array Value} {T : TypeId} (hb : Below (w.alloc (.cells C T)).heap.size (w.alloc (.cells C T)) w1) (j : Nat) : w1.cell? ⟨w.heap.size, j, none⟩ = C[j]? := by
  rw [hb.cell (by simp), World.cell?_alloc_new]

set_option maxRecDepth 100000 in
set_option maxHeartbeats 1000000 in
theorem plain1 (o : OpD) (ho : o.Ok) (hk : o.k = 1) (pw : Value) (w : World) (htab : Lib.TabIs Tryz.prog w "internal/strconv.uint64pow10" .u64 Lib.pow10Tab) :
    Calls Tryz.prog 9 #[pw, .agg o.cells] w fun e w' => e = .returned (.bool true) ∧ Below w.heap.size w w' := by
  have htr := fun o => tabIs_below htab (below_alloc w o)
  obtain ⟨k, on, a, b, s, n, m0, m1, m2, bv, jv, jb, j0, j1, j2, j3, c, nu, cv, cb, c0, c1, c2, c3, sl⟩ := o
  obtain ⟨k0, k1, on0, on1, a0, a1, b0, b1, n1, bv0, bv1, jb1, cc1, cv0, cv1, cb1⟩ := ho
  dsimp only [OpD.cells] at *
  subst hk
  clear bv0 bv1 jb1 cc1 cv0 cv1 cb1 htab
  go_enter Tryz.func9, Tryz.ntmps9
  go_wp2_with (first
    | (go_at_call 24; refine (pseal _ _ _ _ (by assumption) (by assumption) (by assumption) (by assumption) (by assumption) (by assumption) (by assumption) _ (htr _)).mono ?_; rintro e w1 ⟨rfl, hb⟩; have e1 : w1.cell? ⟨w.heap.size, 1, none⟩ = some (.int .i64 on) := box_cell hb 1; have e2 : w1.cell? ⟨w.heap.size, 2, none⟩ = some (.int .i64 a) := box_cell hb 2; have e3 : w1.cell? ⟨w.heap.size, 3, none⟩ = some (.int .i64 b) := box_cell hb 3; have e5 : w1.cell? ⟨w.heap.size, 5, none⟩ = some (.int .u64 n) := box_cell hb 5)
    | (go_at_call 25; refine (rseal _ _ _ _ (by assumption) (by assumption) (by assumption) (by assumption) (by assumption) (by assumption) (by assumption) _).mono ?_; rintro e w2 ⟨rfl, hc⟩))
  go_ret
  exact ⟨rfl, bnext (bnext (below_alloc _ _) hb) hc⟩

set_option maxRecDepth 100000 in
set_option maxHeartbeats 1000000 in
theorem plain2 (o : OpD) (ho : o.Ok) (hk : o.k = 2) (pw : Value) (w : World) (htab : Lib.TabIs Tryz.prog w "internal/strconv.uint64pow10" .u64 Lib.pow10Tab) :
    Calls Tryz.prog 9 #[pw, .agg o.cells] w fun e w' => e = .returned (.bool true) ∧ Below w.heap.size w w' := by
  have htr := fun o => tabIs_below htab (below_alloc w o)
  obtain ⟨k, on, a, b, s, n, m0, m1, m2, bv, jv, jb, j0, j1, j2, j3, c, nu, cv, cb, c0, c1, c2, c3, sl⟩ := o
  obtain ⟨k0, k1, on0, on1, a0, a1, b0, b1, n1, bv0, bv1, jb1, cc1, cv0, cv1, cb1⟩ := ho
  dsimp only [OpD.cells] at *
  subst hk
  clear on0 on1 a0 a1 b0 b1 n1 cv0 cv1 cb1 htab
  go_enter Tryz.func9, Tryz.ntmps9
  go_wp2_with (first
    | (go_at_call 26; refine (pnumber _ _ _ _ _ _ _ _ (by assumption) (by assumption) (by assumption) (by assumption) _ (htr _)).mono ?_; rintro e w1 ⟨rfl, hb⟩; have e9 : w1.cell? ⟨w.heap.size, 9, none⟩ = some (.int .i64 bv) := box_cell hb 9; have e10 : w1.cell? ⟨w.heap.size, 10, none⟩ = some (.int .i64 jv) := box_cell hb 10; have e11 : w1.cell? ⟨w.heap.size, 11, none⟩ = some (.int .u64 jb) := box_cell hb 11; have e12 : w1.cell? ⟨w.heap.size, 12, none⟩ = some (.int .u64 j0) := box_cell hb 12; have e13 : w1.cell? ⟨w.heap.size, 13, none⟩ = some (.int .u64 j1) := box_cell hb 13; have e14 : w1.cell? ⟨w.heap.size, 14, none⟩ = some (.int .u64 j2) := box_cell hb 14; have e15 : w1.cell? ⟨w.heap.size, 15, none⟩ = some (.int .u64 j3) := box_cell hb 15; have e16 : w1.cell? ⟨w.heap.size, 16, none⟩ = some (.string c) := box_cell hb 16)
    | (go_at_call 27; refine (rnumber _ _ _ _ _ _ _ _ (by assumption) (by assumption) (by assumption) (by assumption) _).mono ?_; rintro e w2 ⟨rfl, hc⟩))
  go_ret
  exact ⟨rfl, bnext (bnext (below_alloc _ _) hb) hc⟩

set_option maxRecDepth 100000 in
set_option maxHeartbeats 1000000 in
theorem plain3 (o : OpD) (ho : o.Ok) (hk : o.k = 3) (pw : Value) (w : World) (htab : Lib.TabIs Tryz.prog w "internal/strconv.uint64pow10" .u64 Lib.pow10Tab) :
    Calls Tryz.prog 9 #[pw, .agg o.cells] w fun e w' => e = .returned (.bool true) ∧ Below w.heap.size w w' := by
  have htr := fun o => tabIs_below htab (below_alloc w o)
  obtain ⟨k, on, a, b, s, n, m0, m1, m2, bv, jv, jb, j0, j1, j2, j3, c, nu, cv, cb, c0, c1, c2, c3, sl⟩ := o
  obtain ⟨k0, k1, on0, on1, a0, a1, b0, b1, n1, bv0, bv1, jb1, cc1, cv0, cv1, cb1⟩ := ho
  dsimp only [OpD.cells] at *
  subst hk
  clear on0 on1 a0 a1 b0 b1 n1 bv0 bv1 jb1 cc1 htab
  go_enter Tryz.func9, Tryz.ntmps9
  go_wp2_with (first
    | (go_at_call 28; refine (lright _ _ _ _ _ _ _ (by assumption) (by assumption) (by assumption) _).mono ?_; rintro e w1 ⟨t0, t1, t2, t3, rfl, hb⟩; have ht1 := tabIs_below (htr _) hb; have ht2 := fun o => tabIs_below ht1 (below_alloc w1 o))
    | (go_at_call 29; refine (pgood _ _ _ _ _ _ (by assumption) (by assumption) (by assumption) _ (ht2 _)).mono ?_; rintro e w2 ⟨rfl, hc⟩; have e0 : w2.cell? ⟨w1.heap.size, 0, none⟩ = some (.int .i64 cv) := box_cell hc 0; have e1 : w2.cell? ⟨w1.heap.size, 1, none⟩ = some (.int .u64 cb) := box_cell hc 1; have e2 : w2.cell? ⟨w1.heap.size, 2, none⟩ = some (.int .u64 t0) := box_cell hc 2; have e3 : w2.cell? ⟨w1.heap.size, 3, none⟩ = some (.int .u64 t1) := box_cell hc 3; have e4 : w2.cell? ⟨w1.heap.size, 4, none⟩ = some (.int .u64 t2) := box_cell hc 4; have e5 : w2.cell? ⟨w1.heap.size, 5, none⟩ = some (.int .u64 t3) := box_cell hc 5)
    | (go_at_call 30; refine (rgood _ _ _ _ _ _ (by assumption) (by assumption) (by assumption) _).mono ?_; rintro e w3 ⟨rfl, hd⟩))
  go_ret
  exact ⟨rfl, bnext (bnext (bnext (bnext (below_alloc _ _) hb) (below_alloc _ _)) hc) hd⟩

end Go.Proofs.YtkehpnobidendaaGreatDoor

namespace Go.Proofs.YtkehpnobidendaaGreatDoor
open Go.RowKit

theorem plain (o : OpD) (ho : o.Ok) (h1 : 1 ≤ o.k) (h3 : o.k ≤ 3) (pw : Value) (w : World) (htab : Lib.TabIs Tryz.prog w "internal/strconv.uint64pow10" .u64 Lib.pow10Tab) :
    Calls Tryz.prog 9 #[pw, .agg o.cells] w fun e w' => e = .returned (.bool true) ∧ Below w.heap.size w w' := by
  rcases (by omega : o.k = 1 ∨ o.k = 2 ∨ o.k = 3) with h | h | h
  · exact plain1 o ho h pw w htab
  · exact plain2 o ho h pw w htab
  · exact plain3 o ho h pw w htab

set_option maxRecDepth 100000 in
set_option maxHeartbeats 1000000 in
theorem stepLo (o : OpD) (h1 : ¬ 1 ≤ o.k) (bw : Nat) (w : World) (hm : w.cell? ⟨bw, 0, none⟩ = some (.slice none 0 0)) (hbw : bw < w.heap.size) :
    Calls Tryz.prog 7 #[.pointer (some ⟨bw, 0, none⟩), .agg o.cells] w fun e w' => e = .returned (.bool true) ∧ Below w.heap.size w w' := by
  obtain ⟨k, on, a, b, s, n, m0, m1, m2, bv, jv, jb, j0, j1, j2, j3, c, nu, cv, cb, c0, c1, c2, c3, sl⟩ := o
  dsimp only [OpD.cells] at *
  go_enter Tryz.func7, Tryz.ntmps7
  go_wp2
  go_ret
  exact ⟨rfl, below_alloc _ _⟩

set_option maxRecDepth 100000 in
set_option maxHeartbeats 1000000 in
theorem stepHi (o : OpD) (h1 : 1 ≤ o.k) (h3 : o.k ≤ 3) (bw : Nat) (w : World) (hp : Calls Tryz.prog 9 #[.pointer (some ⟨bw, 0, none⟩), .agg #[.int .i64 o.k, .int .i64 o.on, .int .i64 o.a, .int .i64 o.b, .string o.s, .int .u64 o.n, .int .i64 o.m0, .int .i64 o.m1, .int .i64 o.m2, .int .i64 o.bv, .int .i64 o.jv, .int .u64 o.jb, .int .u64 o.j0, .int .u64 o.j1, .int .u64 o.j2, .int .u64 o.j3, .string o.c, .int .u64 o.nu, .int .i64 o.cv, .int .u64 o.cb, .int .u64 o.c0, .int .u64 o.c1, .int .u64 o.c2, .int .u64 o.c3, .int .u64 o.sl]] (w.alloc (.cells #[.int .i64 o.k, .int .i64 o.on, .int .i64 o.a, .int .i64 o.b, .string o.s, .int .u64 o.n, .int .i64 o.m0, .int .i64 o.m1, .int .i64 o.m2, .int .i64 o.bv, .int .i64 o.jv, .int .u64 o.jb, .int .u64 o.j0, .int .u64 o.j1, .int .u64 o.j2, .int .u64 o.j3, .string o.c, .int .u64 o.nu, .int .i64 o.cv, .int .u64 o.cb, .int .u64 o.c0, .int .u64 o.c1, .int .u64 o.c2, .int .u64 o.c3, .int .u64 o.sl] 45)) fun e w' => e = .returned (.bool true) ∧ Below (w.alloc (.cells #[.int .i64 o.k, .int .i64 o.on, .int .i64 o.a, .int .i64 o.b, .string o.s, .int .u64 o.n, .int .i64 o.m0, .int .i64 o.m1, .int .i64 o.m2, .int .i64 o.bv, .int .i64 o.jv, .int .u64 o.jb, .int .u64 o.j0, .int .u64 o.j1, .int .u64 o.j2, .int .u64 o.j3, .string o.c, .int .u64 o.nu, .int .i64 o.cv, .int .u64 o.cb, .int .u64 o.c0, .int .u64 o.c1, .int .u64 o.c2, .int .u64 o.c3, .int .u64 o.sl] 45)).heap.size (w.alloc (.cells #[.int .i64 o.k, .int .i64 o.on, .int .i64 o.a, .int .i64 o.b, .string o.s, .int .u64 o.n, .int .i64 o.m0, .int .i64 o.m1, .int .i64 o.m2, .int .i64 o.bv, .int .i64 o.jv, .int .u64 o.jb, .int .u64 o.j0, .int .u64 o.j1, .int .u64 o.j2, .int .u64 o.j3, .string o.c, .int .u64 o.nu, .int .i64 o.cv, .int .u64 o.cb, .int .u64 o.c0, .int .u64 o.c1, .int .u64 o.c2, .int .u64 o.c3, .int .u64 o.sl] 45)) w') :
    Calls Tryz.prog 7 #[.pointer (some ⟨bw, 0, none⟩), .agg #[.int .i64 o.k, .int .i64 o.on, .int .i64 o.a, .int .i64 o.b, .string o.s, .int .u64 o.n, .int .i64 o.m0, .int .i64 o.m1, .int .i64 o.m2, .int .i64 o.bv, .int .i64 o.jv, .int .u64 o.jb, .int .u64 o.j0, .int .u64 o.j1, .int .u64 o.j2, .int .u64 o.j3, .string o.c, .int .u64 o.nu, .int .i64 o.cv, .int .u64 o.cb, .int .u64 o.c0, .int .u64 o.c1, .int .u64 o.c2, .int .u64 o.c3, .int .u64 o.sl]] w fun e w' => e = .returned (.bool true) ∧ Below w.heap.size w w' := by
  obtain ⟨k, on, a, b, s, n, m0, m1, m2, bv, jv, jb, j0, j1, j2, j3, c, nu, cv, cb, c0, c1, c2, c3, sl⟩ := o
  dsimp only at *
  go_enter Tryz.func7, Tryz.ntmps7
  go_wp2_with (first
    | (go_at_call 9; refine hp.mono ?_; rintro e w1 ⟨rfl, hb⟩)
    | (refine wpList_load_row rfl 45 _ rfl w.heap.size rfl 45 _ (0, 0) _ (heap_alloc_new _ _) Tryz.underlying45 rfl (by kernel_rfl) ?_))
  go_ret
  exact ⟨rfl, bnext (below_alloc _ _) hb⟩

theorem step (o : OpD) (ho : o.Ok) (h3 : o.k ≤ 3) (bw : Nat) (w : World) (hm : w.cell? ⟨bw, 0, none⟩ = some (.slice none 0 0)) (hbw : bw < w.heap.size) (htab : Lib.TabIs Tryz.prog w "internal/strconv.uint64pow10" .u64 Lib.pow10Tab) :
    Calls Tryz.prog 7 #[.pointer (some ⟨bw, 0, none⟩), .agg o.cells] w fun e w' => e = .returned (.bool true) ∧ Below w.heap.size w w' := by
  by_cases h1 : 1 ≤ o.k
  · exact stepHi o h1 h3 bw w (plain o ho h1 h3 (.pointer (some ⟨bw, 0, none⟩)) _ (tabIs_below htab (below_alloc w (.cells o.cells 45))))
  · exact stepLo o h1 bw w hm hbw

set_option maxRecDepth 100000 in
set_option maxHeartbeats 1000000 in
theorem still (bw : Nat) (w : World) (h4 : w.cell? ⟨bw, 4, none⟩ = some (.slice none 0 0)) (h6 : w.cell? ⟨bw, 6, none⟩ = some (.slice none 0 0)) :
    Calls Tryz.prog 8 #[.pointer (some ⟨bw, 0, none⟩)] w fun e w' => e = .returned (.bool true) ∧ w' = w := by
  go_enter Tryz.func8, Tryz.ntmps8
  go_wp2
  go_loop [3] (fun i => i = .int .i64 0) (fun _ => 0)
  case atStart => rfl
  case round =>
    subst hrel
    go_wp2
    go_loop [5] (fun i => i = .int .i64 0) (fun _ => 0)
    case atStart => rfl
    case round =>
      subst hrel
      go_wp2
      go_ret
      exact ⟨rfl, rfl⟩

end Go.Proofs.YtkehpnobidendaaGreatDoor
