/- Number, the program's and the document's: at every block it is fnv of the text that the document names; memory below is as it was. -/
import Derived.Test.YtkehpnobidendaaGreatDoorSeal
import Derived.Deep.RegionHeld3
import Derived.Deep.DrawnRows
namespace Go.Proofs.YtkehpnobidendaaGreatDoor
open Go.RowKit
attribute [local go_sem ↓] Go.wp_at_zero Go.wp_at_succ

/-- A block's number. -/
def numberOf (v : Int) (u : Nat) (c : List UInt8) : Int := fnv (Lib.itoa v ++ 32 :: (Lib.decDigits u ++ 32 :: c))
theorem num_size (v : Int) (u : Nat) (c : ByteArray) (lv : (Lib.itoa v).length ≤ 21) (lu : (Lib.decDigits u).length ≤ 20) (hc : c.size ≤ 140737488351232) :
    ({ data := (Lib.itoa v).toArray } ++ { data := #[32] } ++ { data := (Lib.decDigits u).toArray } ++ { data := #[32] } ++ c : ByteArray).size ≤ 9223372036854775807 := by
  have h1 : ({ data := (Lib.itoa v).toArray } : ByteArray).size = (Lib.itoa v).length := by simp [ByteArray.size]
  have h2 : ({ data := (Lib.decDigits u).toArray } : ByteArray).size = (Lib.decDigits u).length := by simp [ByteArray.size]
  have h3 : ({ data := #[32] } : ByteArray).size = 1 := rfl
  simp only [ByteArray.size_append, h1, h2, h3]; omega
/-- Behind a call that leaves the memory below as it was, the block's box is as it was. -/
theorem nk_next {w W w1 : World} {a b c : Value} (hb : Below W.heap.size W w1)
    (h : Below w.heap.size w W ∧ w.heap.size < W.heap.size ∧ W.cell? ⟨w.heap.size, 0, none⟩ = some a ∧ W.cell? ⟨w.heap.size, 2, none⟩ = some b ∧ W.cell? ⟨w.heap.size, 7, none⟩ = some c) :
    Below w.heap.size w w1 ∧ w.heap.size < w1.heap.size ∧ w1.cell? ⟨w.heap.size, 0, none⟩ = some a ∧ w1.cell? ⟨w.heap.size, 2, none⟩ = some b ∧ w1.cell? ⟨w.heap.size, 7, none⟩ = some c := by
  obtain ⟨h1, h2, h3, h4, h5⟩ := h
  exact ⟨bnext h1 hb, Nat.lt_of_lt_of_le h2 hb.size, by rw [hb.cell h2]; exact h3, by rw [hb.cell h2]; exact h4, by rw [hb.cell h2]; exact h5⟩

set_option maxRecDepth 100000 in
set_option maxHeartbeats 1000000 in
theorem rnumber (v jv : Int) (u : Nat) (s0 s1 s2 s3 : Value) (c : ByteArray) (v0 : -9223372036854775808 ≤ v) (v1 : v ≤ 9223372036854775807) (hu : u < 18446744073709551616) (hc : c.size ≤ 140737488351232) (w : World) :
    Calls Tryz.prog 27 #[.agg #[.int .i64 v, .int .i64 jv, .int .u64 u, s0, s1, s2, s3, .string c]] w fun e w' => e = .returned (.int .u64 (numberOf v u c.data.toList)) ∧ Below w.heap.size w w' := by
  have lv : (Lib.itoa v).length ≤ 21 := Lib.itoa_length_le v v0 v1
  have lu : (Lib.decDigits u).length ≤ 20 := digits_len u hu
  have g1 : ¬ (9223372036854775807 < (Lib.itoa v).length + 1) := by omega
  have g2 : ¬ (9223372036854775807 < (Lib.itoa v).length + 1 + (Lib.decDigits u).length) := by omega
  have g3 : ¬ (9223372036854775807 < (Lib.itoa v).length + 1 + (Lib.decDigits u).length + 1) := by omega
  have g4 : ¬ (9223372036854775807 < (Lib.itoa v).length + 1 + (Lib.decDigits u).length + 1 + c.size) := by omega
  go_enter Tryz.func27, Tryz.ntmps27
  go_wp2
  go_region_held3 (fun w' => Below w.heap.size w w' ∧ w.heap.size < w'.heap.size ∧ w'.cell? ⟨w.heap.size, 0, none⟩ = some (.int .i64 v) ∧ w'.cell? ⟨w.heap.size, 2, none⟩ = some (.int .u64 u) ∧ w'.cell? ⟨w.heap.size, 7, none⟩ = some (.string c))
    (first | (refine nk_next (by assumption) ?_; refine ⟨?_, ?_, ?_, ?_, ?_⟩ <;> first | assumption | (exact ((Below.refl _ _).alloc (Nat.le_refl _) _).drew) | go_keep) | (refine ⟨?_, ?_, ?_, ?_, ?_⟩ <;> first | assumption | (exact ((Below.refl _ _).alloc (Nat.le_refl _) _).drew) | (exact (Below.refl _ _).alloc (Nat.le_refl _) _) | go_keep))
    (first | (go_at_call 51; refine (rsigned _ (by assumption) (by assumption) _).mono ?_; rintro e w1 ⟨rfl, hb⟩) | (go_at_call 52; refine (rdigits _ (by assumption) _).mono ?_; rintro e w1 ⟨rfl, hb⟩) | (go_at_call 50; refine (rhash _ _ (num_size v u c lv lu hc)).mono ?_; rintro e w1 ⟨rfl, rfl⟩))
  go_wp2
  go_ret
  rename_i hHeld
  exact ⟨by simp [numberOf], hHeld.1⟩

theorem join3 (a b c : List UInt8) : Lib.join [a, b, c] [32] = a ++ 32 :: (b ++ 32 :: c) := by
  rw [Lib.join_cons]; simp [Lib.joinTail]
theorem get3 {α : Type} {P : Nat → α → Prop} {a b c : α} (h0 : P 0 a) (h1 : P 1 b) (h2 : P 2 c) : ∀ (j : Nat) x, [a, b, c][j]? = some x → P j x := by
  intro j x h
  match j with
  | 0 => simp at h; subst h; exact h0
  | 1 => simp at h; subst h; exact h1
  | 2 => simp at h; subst h; exact h2
  | n + 3 => simp at h
/-- Three texts in a new block. -/
theorem pwords3 (W : World) (a b : List UInt8) (c : ByteArray) (T : TypeId) (hl : a.length + b.length ≤ 1000) (hc : c.size ≤ 140737488351232) :
    Calls Tryz.prog 47 #[.slice (some ⟨W.heap.size, 0, none⟩) 3 3] (W.alloc (.cells #[.string ⟨a.toArray⟩, .string ⟨b.toArray⟩, .string c] T)) fun e w' =>
      e = .returned (.int .u64 (fnv (a ++ 32 :: (b ++ 32 :: c.data.toList)))) ∧ Below (W.alloc (.cells #[.string ⟨a.toArray⟩, .string ⟨b.toArray⟩, .string c] T)).heap.size (W.alloc (.cells #[.string ⟨a.toArray⟩, .string ⟨b.toArray⟩, .string c] T)) w' := by
  have hc' : c.data.size ≤ 140737488351232 := hc
  have h := pwords W.heap.size 0 3 [⟨a.toArray⟩, ⟨b.toArray⟩, c] (W.alloc (.cells #[.string ⟨a.toArray⟩, .string ⟨b.toArray⟩, .string c] T))
    (get3 (by rw [World.cell?_alloc_new]; rfl) (by rw [World.cell?_alloc_new]; rfl) (by rw [World.cell?_alloc_new]; rfl))
    (by simp) (by simp) (by simp) (by simp only [List.map_cons, List.map_nil]; rw [join3]; simp; omega)
  refine h.mono ?_
  rintro e w' ⟨rfl, hb⟩
  refine ⟨?_, hb⟩
  simp only [List.map_cons, List.map_nil]; rw [join3]

theorem nk_next' {w W w1 : World} {a b c : Value} {n : String} {k : IntKind} {zs : List Int} (hb : Below W.heap.size W w1)
    (h : Below w.heap.size w W ∧ w.heap.size < W.heap.size ∧ W.cell? ⟨w.heap.size, 0, none⟩ = some a ∧ W.cell? ⟨w.heap.size, 2, none⟩ = some b ∧ W.cell? ⟨w.heap.size, 7, none⟩ = some c ∧ Lib.TabIs Tryz.prog W n k zs) :
    Below w.heap.size w w1 ∧ w.heap.size < w1.heap.size ∧ w1.cell? ⟨w.heap.size, 0, none⟩ = some a ∧ w1.cell? ⟨w.heap.size, 2, none⟩ = some b ∧ w1.cell? ⟨w.heap.size, 7, none⟩ = some c ∧ Lib.TabIs Tryz.prog w1 n k zs := by
  obtain ⟨h1, h2, h3, h4, h5, h6⟩ := h
  exact ⟨bnext h1 hb, Nat.lt_of_lt_of_le h2 hb.size, by rw [hb.cell h2]; exact h3, by rw [hb.cell h2]; exact h4, by rw [hb.cell h2]; exact h5, tabIs_below h6 hb⟩
theorem below_alloc (w : World) (o : Obj) : Below w.heap.size w (w.alloc o) := (Below.refl _ _).alloc (Nat.le_refl _) _
theorem below_drew (w : World) : Below w.heap.size w w.drew := (Below.refl _ _).drew

set_option maxRecDepth 100000 in
set_option maxHeartbeats 1000000 in
theorem pnumber (v jv : Int) (u : Nat) (s0 s1 s2 s3 : Value) (c : ByteArray) (v0 : -9223372036854775808 ≤ v) (v1 : v ≤ 9223372036854775807) (hu : u < 18446744073709551616) (hc : c.size ≤ 140737488351232) (w : World)
    (htab : Lib.TabIs Tryz.prog w "internal/strconv.uint64pow10" .u64 Lib.pow10Tab) :
    Calls Tryz.prog 26 #[.agg #[.int .i64 v, .int .i64 jv, .int .u64 u, s0, s1, s2, s3, .string c]] w fun e w' => e = .returned (.int .u64 (numberOf v u c.data.toList)) ∧ Below w.heap.size w w' := by
  have lv : (Lib.itoa v).length ≤ 21 := Lib.itoa_length_le v v0 v1
  have lu : (Lib.decDigits u).length ≤ 20 := digits_len u hu
  have ht1 := fun o => tabIs_below htab (bnext (below_alloc w o) (below_drew (w.alloc o)))
  go_enter Tryz.func26, Tryz.ntmps26
  go_wp2
  go_region_held3 (fun w' => Below w.heap.size w w' ∧ w.heap.size < w'.heap.size ∧ w'.cell? ⟨w.heap.size, 0, none⟩ = some (.int .i64 v) ∧ w'.cell? ⟨w.heap.size, 2, none⟩ = some (.int .u64 u) ∧ w'.cell? ⟨w.heap.size, 7, none⟩ = some (.string c) ∧ Lib.TabIs Tryz.prog w' "internal/strconv.uint64pow10" .u64 Lib.pow10Tab)
    (first | assumption | (refine nk_next' (by first | assumption | exact below_alloc _ _) ?_; first | assumption | (refine ⟨?_, ?_, ?_, ?_, ?_, ?_⟩ <;> first | assumption | exact ht1 _ | (exact bnext (below_alloc _ _) (below_drew _)) | go_keep)) | (refine ⟨?_, ?_, ?_, ?_, ?_, ?_⟩ <;> first | assumption | exact ht1 _ | (exact bnext (below_alloc _ _) (below_drew _)) | go_keep))
    (first | (go_at_call 48; refine (itoaB _ (by assumption) (by assumption) _ ?_).mono ?_; (first | assumption | exact ht1 _); rintro e w1 ⟨rfl, hb⟩; have ht2 := tabIs_below (by first | assumption | exact ht1 _) hb) | (go_at_call 49; refine (formatUint _ (by assumption) _ ?_).mono ?_; (first | assumption | exact ht1 _); rintro e w1 ⟨rfl, hb⟩) | (go_at_call 47; refine (pwords3 _ _ _ c _ (by omega) hc).mono ?_; rintro e w1 ⟨rfl, hb⟩))
  go_wp2
  go_ret
  rename_i hHeld
  exact ⟨rfl, hHeld.1⟩

end Go.Proofs.YtkehpnobidendaaGreatDoor
