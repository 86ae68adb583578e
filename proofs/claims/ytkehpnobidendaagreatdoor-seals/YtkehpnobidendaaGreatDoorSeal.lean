/- The program's Seal: at all members, kinds, views and numbers it is the document's; memory below is as it was. -/
import Derived.Test.YtkehpnobidendaaGreatDoorUint
namespace Go.Proofs.YtkehpnobidendaaGreatDoor
open Go.RowKit

set_option maxHeartbeats 400000 in
theorem pwords (bk o c : Nat) (xs : List ByteArray) (w : World) (hcells : ∀ (j : Nat) x, xs[j]? = some x → w.cell? ⟨bk, o + j, none⟩ = some (.string x)) (hbk : bk < w.heap.size) (hN : xs.length ≤ 1000) (hcap : xs.length ≤ c)
    (hlen : (Lib.join (xs.map (·.data.toList)) [32]).length ≤ 140737488355328) :
    Calls Tryz.prog 47 #[.slice (some ⟨bk, o, none⟩) xs.length c] w fun e w' => e = .returned (.int .u64 (fnv (Lib.join (xs.map (·.data.toList)) [32]))) ∧ Below w.heap.size w w' := by
  have hj := Tryz.strings_Join bk o c xs ⟨#[32]⟩ w hcells hbk (by omega) hcap hlen
  have hl : (⟨(Lib.join (xs.map (·.data.toList)) (⟨#[32]⟩ : ByteArray).data.toList).toArray⟩ : ByteArray).size ≤ 9223372036854775807 := by
    simp only [ByteArray.size, List.size_toArray]
    exact Nat.le_trans hlen (by omega)
  clear hcells hlen
  go_enter Tryz.func47, Tryz.ntmps47
  go_wp2_with (first
    | (go_at_call 70; refine hj.mono ?_; rintro e w1 ⟨rfl, hb⟩)
    | (go_at_call 69; refine (phash _ _ hl).mono ?_; rintro e w1 ⟨rfl, rfl⟩))
  go_ret
  exact ⟨rfl, hb⟩

theorem join5 (a b c d : List UInt8) : Lib.join [[109, 101, 109, 98, 101, 114], a, b, c, d] [32] = 109 :: 101 :: 109 :: 98 :: 101 :: 114 :: 32 :: (a ++ 32 :: (b ++ 32 :: (c ++ 32 :: d))) := by
  rw [Lib.join_cons]; simp [Lib.joinTail]
theorem get5 {α : Type} {P : Nat → α → Prop} {a b c d e : α} (h0 : P 0 a) (h1 : P 1 b) (h2 : P 2 c) (h3 : P 3 d) (h4 : P 4 e) : ∀ (j : Nat) x, [a, b, c, d, e][j]? = some x → P j x := by
  intro j x h
  match j with
  | 0 => simp at h; subst h; exact h0
  | 1 => simp at h; subst h; exact h1
  | 2 => simp at h; subst h; exact h2
  | 3 => simp at h; subst h; exact h3
  | 4 => simp at h; subst h; exact h4
  | n + 5 => simp at h
/-- Five texts in a new block. -/
theorem pwords5 (W : World) (a b c d : List UInt8) (T : TypeId) (hl : a.length + b.length + c.length + d.length ≤ 100000) :
    Calls Tryz.prog 47 #[.slice (some ⟨W.heap.size, 0, none⟩) 5 5] (W.alloc (.cells #[.string ⟨#[109, 101, 109, 98, 101, 114]⟩, .string ⟨a.toArray⟩, .string ⟨b.toArray⟩, .string ⟨c.toArray⟩, .string ⟨d.toArray⟩] T)) fun e w' =>
      e = .returned (.int .u64 (fnv (109 :: 101 :: 109 :: 98 :: 101 :: 114 :: 32 :: (a ++ 32 :: (b ++ 32 :: (c ++ 32 :: d)))))) ∧ Below W.heap.size W w' := by
  have h := pwords W.heap.size 0 5 [⟨#[109, 101, 109, 98, 101, 114]⟩, ⟨a.toArray⟩, ⟨b.toArray⟩, ⟨c.toArray⟩, ⟨d.toArray⟩] (W.alloc (.cells #[.string ⟨#[109, 101, 109, 98, 101, 114]⟩, .string ⟨a.toArray⟩, .string ⟨b.toArray⟩, .string ⟨c.toArray⟩, .string ⟨d.toArray⟩] T))
    (get5 (by rw [World.cell?_alloc_new]; rfl) (by rw [World.cell?_alloc_new]; rfl) (by rw [World.cell?_alloc_new]; rfl) (by rw [World.cell?_alloc_new]; rfl) (by rw [World.cell?_alloc_new]; rfl))
    (by simp) (by simp) (by simp) (by simp only [List.map_cons, List.map_nil]; rw [join5]; simp; omega)
  refine h.mono ?_
  rintro e w' ⟨rfl, hb⟩
  refine ⟨?_, ?_⟩
  · simp only [List.map_cons, List.map_nil]; rw [join5]
  · exact ((Below.refl _ _).alloc (Nat.le_refl _) _).trans (hb.mono (by simp))

set_option maxRecDepth 100000 in
set_option maxHeartbeats 1000000 in
theorem pseal (m k v : Int) (u : Nat) (m0 : -9223372036854775808 ≤ m) (m1 : m ≤ 9223372036854775807) (k0 : -9223372036854775808 ≤ k) (k1 : k ≤ 9223372036854775807)
    (v0 : -9223372036854775808 ≤ v) (v1 : v ≤ 9223372036854775807) (hu : u < 18446744073709551616) (w : World)
    (htab : Lib.TabIs Tryz.prog w "internal/strconv.uint64pow10" .u64 Lib.pow10Tab) :
    Calls Tryz.prog 24 #[.int .i64 m, .int .i64 k, .int .i64 v, .int .u64 u] w fun e w' => e = .returned (.int .u64 (sealOf m k v u)) ∧ Below w.heap.size w w' := by
  have lm : (Lib.itoa m).length ≤ 21 := Lib.itoa_length_le m m0 m1
  have lk : (Lib.itoa k).length ≤ 21 := Lib.itoa_length_le k k0 k1
  have lv : (Lib.itoa v).length ≤ 21 := Lib.itoa_length_le v v0 v1
  have lu : (Lib.decDigits u).length ≤ 20 := digits_len u hu
  go_enter Tryz.func24, Tryz.ntmps24
  go_wp2_with (first
    | (go_at_call 48; refine (itoaB _ (by assumption) (by assumption) _ (by assumption)).mono ?_; rintro e w1 ⟨rfl, hb⟩; have ht := tabIs_below (by assumption) hb)
    | (go_at_call 49; refine (formatUint _ (by assumption) _ (by assumption)).mono ?_; rintro e w1 ⟨rfl, hb⟩)
    | (go_at_call 47; refine (pwords5 _ _ _ _ _ _ (by omega)).mono ?_; rintro e w2 ⟨rfl, hc⟩))
  go_ret
  rename_i _ b1 _ _ b2 _ _ b3
  exact ⟨rfl, bnext (bnext (bnext (bnext b1 b2) b3) hb) hc⟩

end Go.Proofs.YtkehpnobidendaaGreatDoor
