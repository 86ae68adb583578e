/- The document's own decimal digits: of every uint64 and of every int they are the numeral that the library's Itoa gives; memory below is as it was. The document's own Seal: at all members, kinds, views and numbers it is fnv of the text that the document names; memory below is as it was. -/
import Derived.Test.YtkehpnobidendaaGreatDoorHash
import Derived.Lib.ItoaNum
import Derived.Lib.ItoaMem
import Derived.Lib.ItoaLen
namespace Go.Proofs.YtkehpnobidendaaGreatDoor
open Go.RowKit

/-- The last decimal digit, as a byte. -/
def dgt (m : Nat) : UInt8 := UInt8.ofNat (48 + m % 10)
theorem dgt_toNat (m : Nat) : ((dgt m).toNat : Int) = 48 + (m : Int) % 10 := by
  unfold dgt
  have : (UInt8.ofNat (48 + m % 10)).toNat = 48 + m % 10 := by rw [UInt8.toNat_ofNat']; omega
  rw [this]; omega
/-- 1 for the empty text, else 0. -/
def empOf : Value → Nat
  | .string s => if s.size = 0 then 1 else 0
  | _ => 0
theorem str_cons (c : UInt8) (t : List UInt8) : Value.string ({ data := #[c] } ++ { data := t.toArray }) = .string ⟨(c :: t).toArray⟩ := by
  congr 1
theorem empOf_cons (c : UInt8) (t : List UInt8) : empOf (.string ⟨(c :: t).toArray⟩) = 0 := by simp [empOf, ByteArray.size]
/-- What the digits are, when m is still to be told and t stands already. -/
def dd (m : Nat) (t : List UInt8) : List UInt8 := if m = 0 ∧ t ≠ [] then t else Lib.decDigits m ++ t
theorem dd_step (m : Nat) (t : List UInt8) : dd (m / 10) (dgt m :: t) = Lib.decDigits m ++ t := by
  unfold dd dgt
  by_cases h : m < 10
  · rw [if_pos ⟨by omega, by simp⟩, Lib.decDigits_one h, Nat.mod_eq_of_lt h]; rfl
  · rw [if_neg (by omega), Lib.decDigits.eq_1 m, dif_neg h, List.append_assoc]; rfl
theorem dd_go (m : Nat) (t : List UInt8) (h : ¬ (m = 0 ∧ t ≠ [])) : dd m t = Lib.decDigits m ++ t := by unfold dd; rw [if_neg h]
theorem dd_end (t : List UInt8) (h : t ≠ []) : dd 0 t = t := by unfold dd; rw [if_pos ⟨rfl, h⟩]

/-- 'string([]byte{c})' of one byte that was just laid. -/
theorem conv_one (W : World) (m : Nat) : (convert 108 9 (.slice (some ⟨W.heap.size, 0, none⟩) 1 1)).run Tryz.prog (W.alloc (.cells #[.int .u8 (48 + (m : Int) % 10)] 5)) = .ok (.string ⟨#[dgt m]⟩) (W.alloc (.cells #[.int .u8 (48 + (m : Int) % 10)] 5)) := by
  have h := run_convert_bytes_back (P := Tryz.prog) (W.alloc (.cells #[.int .u8 (48 + (m : Int) % 10)] 5)) 108 9 5 ⟨W.heap.size, 0, none⟩ 1 [dgt m] Tryz.underlying108 Tryz.underlying5 Tryz.underlying9 (fun j hj => by
    have hj0 : j = 0 := by simpa using hj
    subst hj0
    rw [Lib.add_plain, World.cell?_alloc_new]
    simp [dgt_toNat])
  exact h

theorem dd_len (m : Nat) (t : List UInt8) : t.length ≤ (dd m t).length := by
  unfold dd; split
  · exact Nat.le_refl _
  · simp
theorem digits_len (u : Nat) (hu : u < 18446744073709551616) : (Lib.decDigits u).length ≤ 20 := by
  by_cases h : u = 0
  · subst h; decide +kernel
  · rw [Lib.decDigits_length]
    have := Lib.numDigits_eq u (by omega) hu
    split at this <;> omega

set_option maxRecDepth 100000 in
set_option maxHeartbeats 400000 in
theorem rdigits (u : Nat) (hu : u < 18446744073709551616) (w : World) :
    Calls Tryz.prog 52 #[.int .u64 u] w fun e w' => e = .returned (.string ⟨(Lib.decDigits u).toArray⟩) ∧ Below w.heap.size w w' := by
  have h20 := digits_len u hu
  have H20 : Hid ((Lib.decDigits u).length ≤ 20) := h20
  clear h20
  go_enter Tryz.func52, Tryz.ntmps52
  go_wp2
  go_loopw [0, 3] (fun n s wr => ∃ (m : Nat) (t : List UInt8), m ≤ u ∧ n = .int .u64 m ∧ s = .string ⟨t.toArray⟩ ∧ Hid (dd m t = Lib.decDigits u) ∧ Below w.heap.size w wr) (fun n s _ => 2 * (intOf n).toNat + empOf s)
  case atStart => exact ⟨u, [], Nat.le_refl _, rfl, rfl, by show dd u [] = _; rw [dd_go _ _ (by simp)]; simp, Below.refl _ _⟩
  case round =>
    obtain ⟨m, t, hm, rfl, rfl, hd, hb⟩ := hrel
    have hc := conv_one wr m
    have hlen : t.length ≤ 20 := by have := dd_len m t; rw [hd.out] at this; exact Nat.le_trans this H20.out
    by_cases hlt : 0 < m
    · have HS : Hid (dd (m / 10) (dgt m :: t) = Lib.decDigits u) := by
        show dd (m / 10) (dgt m :: t) = Lib.decDigits u
        rw [dd_step, ← dd_go m t (by omega)]; exact hd.out
      go_wp2
      go_roundw
      case rel => exact ⟨m / 10, dgt m :: t, by omega, by go_num, str_cons _ _, HS, hb.alloc hb.size _⟩
      case measure => rw [str_cons, empOf_cons]; simp [intOf]; omega
    · have hm0 : m = 0 := by omega
      subst hm0
      cases t with
      | nil =>
        have HS : Hid (dd 0 [dgt 0] = Lib.decDigits u) := by
          show dd 0 [dgt 0] = Lib.decDigits u
          have := dd_step 0 []
          rw [this, ← dd_go 0 [] (by simp)]; exact hd.out
        have hc0 : (convert 108 9 (.slice (some ⟨wr.heap.size, 0, none⟩) 1 1)).run Tryz.prog (wr.alloc (.cells #[.int .u8 48] 5)) = .ok (.string ⟨#[dgt 0]⟩) (wr.alloc (.cells #[.int .u8 48] 5)) := conv_one wr 0
        clear hc
        go_wp2
        go_roundw
        case rel => exact ⟨0, [dgt 0], by omega, by go_num, str_cons _ _, HS, hb.alloc hb.size _⟩
        case measure => rw [str_cons, empOf_cons, show empOf (.string ⟨([] : List UInt8).toArray⟩) = 1 from rfl]; simp [intOf]
      | cons c t =>
        have HE : Hid (c :: t = Lib.decDigits u) := by
          show c :: t = Lib.decDigits u
          rw [← hd.out, dd_end _ (by simp)]
        go_wp2
        go_ret
        exact ⟨by rw [← HE.out]; rfl, hb⟩

theorem rdigitsI (x : Int) (u : Nat) (hx : x = u) (hu : u < 18446744073709551616) (w : World) :
    Calls Tryz.prog 52 #[.int .u64 x] w fun e w' => e = .returned (.string ⟨(Lib.decDigits u).toArray⟩) ∧ Below w.heap.size w w' := by
  rw [hx]; exact rdigits u hu w
set_option maxRecDepth 100000 in
set_option maxHeartbeats 400000 in
theorem rsigned (n : Int) (h0 : -9223372036854775808 ≤ n) (h1 : n ≤ 9223372036854775807) (w : World) :
    Calls Tryz.prog 51 #[.int .i64 n] w fun e w' => e = .returned (.string ⟨(Lib.itoa n).toArray⟩) ∧ Below w.heap.size w w' := by
  by_cases hn : n < 0
  · obtain ⟨u, rfl⟩ : ∃ u : Nat, n = -(u : Int) := ⟨n.natAbs, by omega⟩
    have hu : u ≤ 9223372036854775808 := by omega
    have hl : (Lib.decDigits u).length ≤ 20 := digits_len u (by omega)
    have HI : Hid (Lib.itoa (-(u : Int)) = 45 :: Lib.decDigits u) := Lib.itoa_neg u (by omega)
    go_enter Tryz.func51, Tryz.ntmps51
    go_wp2_with (go_at_call 52; refine (rdigitsI _ u (by omega) (by omega) _).mono ?_; rintro e w' ⟨rfl, hb⟩)
    go_ret
    exact ⟨by rw [HI.out]; rfl, hb⟩
  · obtain ⟨u, rfl⟩ : ∃ u : Nat, n = (u : Int) := ⟨n.toNat, by omega⟩
    have HI : Hid (Lib.itoa (u : Int) = Lib.decDigits u) := Lib.itoa_nonneg u
    go_enter Tryz.func51, Tryz.ntmps51
    go_wp2_with (go_at_call 52; refine (rdigitsI _ u (by omega) (by omega) _).mono ?_; rintro e w' ⟨rfl, hb⟩)
    go_ret
    exact ⟨by rw [HI.out]; rfl, hb⟩

end Go.Proofs.YtkehpnobidendaaGreatDoor

namespace Go.Proofs.YtkehpnobidendaaGreatDoor
open Go.RowKit

/-- The text of a seal. -/
def sealText (m k v : Int) (u : Nat) : List UInt8 := 109 :: 101 :: 109 :: 98 :: 101 :: 114 :: 32 :: (Lib.itoa m ++ 32 :: (Lib.itoa k ++ 32 :: (Lib.itoa v ++ 32 :: Lib.decDigits u)))
/-- The seal. -/
def sealOf (m k v : Int) (u : Nat) : Int := fnv (sealText m k v u)
theorem seal_size (m k v : Int) (u : Nat) (lm : (Lib.itoa m).length ≤ 21) (lk : (Lib.itoa k).length ≤ 21) (lv : (Lib.itoa v).length ≤ 21) (lu : (Lib.decDigits u).length ≤ 20) :
    ({ data := #[109, 101, 109, 98, 101, 114, 32] } ++ { data := (Lib.itoa m).toArray } ++ { data := #[32] } ++ { data := (Lib.itoa k).toArray } ++ { data := #[32] } ++ { data := (Lib.itoa v).toArray } ++ { data := #[32] } ++ { data := (Lib.decDigits u).toArray } : ByteArray).size ≤ 9223372036854775807 := by
  simp [ByteArray.size]; omega

set_option maxRecDepth 100000 in
set_option maxHeartbeats 1000000 in
theorem rseal (m k v : Int) (u : Nat) (m0 : -9223372036854775808 ≤ m) (m1 : m ≤ 9223372036854775807) (k0 : -9223372036854775808 ≤ k) (k1 : k ≤ 9223372036854775807)
    (v0 : -9223372036854775808 ≤ v) (v1 : v ≤ 9223372036854775807) (hu : u < 18446744073709551616) (w : World) :
    Calls Tryz.prog 25 #[.int .i64 m, .int .i64 k, .int .i64 v, .int .u64 u] w fun e w' => e = .returned (.int .u64 (sealOf m k v u)) ∧ Below w.heap.size w w' := by
  have lm : (Lib.itoa m).length ≤ 21 := Lib.itoa_length_le m m0 m1
  have lk : (Lib.itoa k).length ≤ 21 := Lib.itoa_length_le k k0 k1
  have lv : (Lib.itoa v).length ≤ 21 := Lib.itoa_length_le v v0 v1
  have lu : (Lib.decDigits u).length ≤ 20 := digits_len u hu
  go_enter Tryz.func25, Tryz.ntmps25
  go_wp2_with (first
    | (go_at_call 51; refine (rsigned _ (by assumption) (by assumption) _).mono ?_; rintro e w1 ⟨rfl, hb⟩)
    | (go_at_call 52; refine (rdigits _ (by assumption) _).mono ?_; rintro e w1 ⟨rfl, hb⟩)
    | (go_at_call 50; refine (rhash _ _ (seal_size m k v u lm lk lv lu)).mono ?_; rintro e w1 ⟨rfl, rfl⟩))
  go_ret
  refine ⟨rfl, ?_⟩
  rename_i b1 _ b2 _ b3
  exact ((b1.trans (b2.mono b1.size)).trans (b3.mono (Nat.le_trans b1.size b2.size))).trans (hb.mono (Nat.le_trans b1.size (Nat.le_trans b2.size b3.size)))

end Go.Proofs.YtkehpnobidendaaGreatDoor
