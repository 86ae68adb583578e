/- The document's own decimal digits: of every uint64 and of every int they are the numeral that the library's Itoa gives; memory below is as it was. The document's own Seal: at all members, kinds, views and numbers it is fnv of the text that the document names; memory below is as it was. -/
import Derived.Test.YtkehpnobidendaaDoorHash
import Derived.Lib.ItoaNum
import Derived.Lib.ItoaMem
import Derived.Lib.ItoaLen
namespace Go.Proofs.YtkehpnobidendaaDoor
open Go.RowKit

/-- The last decimal digit, as a byte. -/
def dgt (m : Nat) : UInt8 := UInt8.ofNat (48 + m % 10)
theorem dgt_toNat (m : Nat) : ((dgt m).toNat : Int) = 48 + (m : Int) % 10 := by
  unfold dgt
  have : (UInt8.ofNat (48 + m % 10)).toNat = 48 + m % 10 := by rw [UInt8.toNat_ofNat']; omega
  rw [this]; omega
/-- 1 for the empty text, else 0. -/
def empOf : Value → Nat
  | .string s => if s.size = 0 then 1 else 0
  | _ => 0
theorem str_cons (c : UInt8) (t : List UInt8) : Value.string ({ data := #[c] } ++ { data := t.toArray }) = .string ⟨(c :: t).toArray⟩ := by
  congr 1
theorem empOf_cons (c : UInt8) (t : List UInt8) : empOf (.string ⟨(c :: t).toArray⟩) = 0 := by simp [empOf, ByteArray.size]
/-- What the digits are, when m is still to be told and t stands already. -/
def dd (m : Nat) (t : List UInt8) : List UInt8 := if m = 0 ∧ t ≠ [] then t else Lib.decDigits m ++ t
theorem dd_step (m : Nat) (t : List UInt8) : dd (m / 10) (dgt m :: t) = Lib.decDigits m ++ t := by
  unfold dd dgt
  by_cases h : m < 10
  · rw [if_pos ⟨by omega, by simp⟩, Lib.decDigits_one h, Nat.mod_eq_of_lt h]; rfl
  · rw [if_neg (by omega), Lib.decDigits.eq_1 m, dif_neg h, List.append_assoc]; rfl
theorem dd_go (m : Nat) (t : List UInt8) (h : ¬ (m = 0 ∧ t ≠ [])) : dd m t = Lib.decDigits m ++ t := by unfold dd; rw [if_neg h]
theorem dd_end (t : List UInt8) (h : t ≠ []) : dd 0 t = t := by unfold dd; rw [if_pos ⟨rfl, h⟩]

/-- 'string([]byte{c})' of one byte that was just laid. -/
theorem conv_one (W : World) (m : Nat) : (convert 104 9 (.slice (some ⟨W.heap.size, 0, none⟩) 1 1)).run Tryd.prog (W.alloc (.cells #[.int .u8 (48 + (m : Int) % 10)] 5)) = .ok (.string ⟨#[dgt m]⟩) (W.alloc (.cells #[.int .u8 (48 + (m : Int) % 10)] 5)) := by
  have h := run_convert_bytes_back (P := Tryd.prog) (W.alloc (.cells #[.int .u8 (48 + (m : Int) % 10)] 5)) 104 9 5 ⟨W.heap.size, 0, none⟩ 1 [dgt m] Tryd.underlying104 Tryd.underlying5 Tryd.underlying9 (fun j hj => by
    have hj0 : j = 0 := by simpa using hj
    subst hj0
    rw [Lib.add_plain, World.cell?_alloc_new]
    simp [dgt_toNat])
  exact h

theorem dd_len (m : Nat) (t : List UInt8) : t.length ≤ (dd m t).length := by
  unfold dd; split
  · exact Nat.le_refl _
  · simp
theorem digits_len (u : Nat) (hu : u < 18446744073709551616) : (Lib.decDigits u).length ≤ 20 := by
  by_cases h : u = 0
  · subst h; decide +kernel
  · rw [Lib.decDigits_length]
    have := Lib.numDigits_eq u (by omega) hu
    split at this <;> omega

end Go.Proofs.YtkehpnobidendaaDoor

namespace Go.Proofs.YtkehpnobidendaaDoor
open Go.RowKit

/-- The text of a seal. -/
def sealText (m k v : Int) (u : Nat) : List UInt8 := 109 :: 101 :: 109 :: 98 :: 101 :: 114 :: 32 :: (Lib.itoa m ++ 32 :: (Lib.itoa k ++ 32 :: (Lib.itoa v ++ 32 :: Lib.decDigits u)))
/-- The seal. -/
def sealOf (m k v : Int) (u : Nat) : Int := fnv (sealText m k v u)
theorem seal_size (m k v : Int) (u : Nat) (lm : (Lib.itoa m).length ≤ 21) (lk : (Lib.itoa k).length ≤ 21) (lv : (Lib.itoa v).length ≤ 21) (lu : (Lib.decDigits u).length ≤ 20) :
    ({ data := #[109, 101, 109, 98, 101, 114, 32] } ++ { data := (Lib.itoa m).toArray } ++ { data := #[32] } ++ { data := (Lib.itoa k).toArray } ++ { data := #[32] } ++ { data := (Lib.itoa v).toArray } ++ { data := #[32] } ++ { data := (Lib.decDigits u).toArray } : ByteArray).size ≤ 9223372036854775807 := by
  simp [ByteArray.size]; omega

end Go.Proofs.YtkehpnobidendaaDoor
