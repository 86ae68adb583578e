/- The hash of a text, in the program and in the document's own answer: both give fnv of its bytes, at every text, and leave memory as it was. -/
import Derived.Test.YtkehpnobidendaaGreatDoorProg
import Derived.WalkKit
import Derived.WalkSpells
import Derived.WalkLawsBesides
namespace Go.Proofs.YtkehpnobidendaaGreatDoor
open Go.RowKit

/-- One step of the hash: the exclusive or with a byte, then the product, modulo 2^64. -/
def hstep (h : Int) (c : UInt8) : Int := IntKind.u64.wrap (bits BinOp.xor IntKind.u64 h (IntKind.u64.wrap (c.toNat : Int)) * 1099511628211)
/-- The hash of a list of bytes. -/
def fnv (l : List UInt8) : Int := l.foldl hstep 14695981039346656037

theorem take_snoc (s : ByteArray) (k : Nat) (h : k < s.size) : s.data.toList.take (k + 1) = s.data.toList.take k ++ [s[k]] := by
  rw [List.take_succ_eq_append_getElem (by simpa using h)]; rfl
theorem fnv_snoc (s : ByteArray) (k : Nat) (h : k < s.size) : fnv (s.data.toList.take (k + 1)) = hstep (fnv (s.data.toList.take k)) s[k] := by
  rw [take_snoc s k h]; unfold fnv; rw [List.foldl_append]; rfl
theorem fnv_all (s : ByteArray) (k : Nat) (h : s.size ≤ k) : fnv (s.data.toList.take k) = fnv s.data.toList := by
  rw [List.take_of_length_le (by simpa using h)]

/-- What leaves the memory below as it was, twice. -/
theorem bnext {w a b : World} (h : Below w.heap.size w a) (k : Below a.heap.size a b) : Below w.heap.size w b := h.trans (k.mono h.size)

set_option maxHeartbeats 400000 in
theorem rhash (s : ByteArray) (w : World) (hs : s.size ≤ 9223372036854775807) :
    Calls Tryz.prog 50 #[.string s] w fun e w' => e = .returned (.int .u64 (fnv s.data.toList)) ∧ w' = w := by
  go_enter Tryz.func50, Tryz.ntmps50
  go_wp2
  go_loop [3, 4] (fun n i => ∃ k : Nat, k ≤ s.size ∧ i = .int .i64 k ∧ n = .int .u64 (fnv (s.data.toList.take k))) (fun _ i => s.size - (intOf i).toNat)
  case atStart => exact ⟨0, Nat.zero_le _, rfl, rfl⟩
  case round =>
    obtain ⟨k, hk, rfl, rfl⟩ := hrel
    by_cases hlt : k < s.size
    · have HS : Hid (fnv (s.data.toList.take (k + 1)) = hstep (fnv (s.data.toList.take k)) s[k]) := fnv_snoc s k hlt
      go_wp2
      go_round
      case rel => exact ⟨k + 1, by omega, by go_num, by rw [HS.out]; rfl⟩
      case measure => simp [intOf]; omega
    · have HA : Hid (fnv (s.data.toList.take k) = fnv s.data.toList) := fnv_all s k (by omega)
      go_wp2
      go_ret
      exact ⟨by rw [HA.out]; rfl, rfl⟩

set_option maxHeartbeats 400000 in
theorem phash (s : ByteArray) (w : World) (hs : s.size ≤ 9223372036854775807) :
    Calls Tryz.prog 69 #[.string s] w fun e w' => e = .returned (.int .u64 (fnv s.data.toList)) ∧ w' = w := by
  go_enter Tryz.func69, Tryz.ntmps69
  go_wp2
  go_loop [3, 7] (fun n i => ∃ k : Nat, k ≤ s.size ∧ i = .int .i64 k ∧ n = .int .u64 (fnv (s.data.toList.take k))) (fun _ i => s.size - (intOf i).toNat)
  case atStart => exact ⟨0, Nat.zero_le _, rfl, rfl⟩
  case round =>
    obtain ⟨k, hk, rfl, rfl⟩ := hrel
    by_cases hlt : k < s.size
    · have HS : Hid (fnv (s.data.toList.take (k + 1)) = hstep (fnv (s.data.toList.take k)) s[k]) := fnv_snoc s k hlt
      go_wp2
      go_round
      case rel => exact ⟨k + 1, by omega, by go_num, by rw [HS.out]; rfl⟩
      case measure => simp [intOf]; omega
    · have HA : Hid (fnv (s.data.toList.take k) = fnv s.data.toList) := fnv_all s k (by omega)
      go_wp2
      go_ret
      exact ⟨by rw [HA.out]; rfl, rfl⟩

end Go.Proofs.YtkehpnobidendaaGreatDoor
