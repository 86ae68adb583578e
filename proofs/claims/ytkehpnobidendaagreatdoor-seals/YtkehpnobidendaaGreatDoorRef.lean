/- The document's own Seal: at all members, kinds, views and numbers it is fnv of the text that the document names; memory below is as it was. -/
import Derived.Test.YtkehpnobidendaaGreatDoorDigits
namespace Go.Proofs.YtkehpnobidendaaGreatDoor
open Go.RowKit

/-- The text of a seal. -/
def sealText (m k v : Int) (u : Nat) : List UInt8 := 109 :: 101 :: 109 :: 98 :: 101 :: 114 :: 32 :: (Lib.itoa m ++ 32 :: (Lib.itoa k ++ 32 :: (Lib.itoa v ++ 32 :: Lib.decDigits u)))
/-- The seal. -/
def sealOf (m k v : Int) (u : Nat) : Int := fnv (sealText m k v u)
theorem seal_size (m k v : Int) (u : Nat) (lm : (Lib.itoa m).length ≤ 21) (lk : (Lib.itoa k).length ≤ 21) (lv : (Lib.itoa v).length ≤ 21) (lu : (Lib.decDigits u).length ≤ 20) :
    ({ data := #[109, 101, 109, 98, 101, 114, 32] } ++ { data := (Lib.itoa m).toArray } ++ { data := #[32] } ++ { data := (Lib.itoa k).toArray } ++ { data := #[32] } ++ { data := (Lib.itoa v).toArray } ++ { data := #[32] } ++ { data := (Lib.decDigits u).toArray } : ByteArray).size ≤ 9223372036854775807 := by
  simp [ByteArray.size]; omega

set_option maxRecDepth 100000 in
set_option maxHeartbeats 1000000 in
theorem rseal (m k v : Int) (u : Nat) (m0 : -9223372036854775808 ≤ m) (m1 : m ≤ 9223372036854775807) (k0 : -9223372036854775808 ≤ k) (k1 : k ≤ 9223372036854775807)
    (v0 : -9223372036854775808 ≤ v) (v1 : v ≤ 9223372036854775807) (hu : u < 18446744073709551616) (w : World) :
    Calls Tryz.prog 25 #[.int .i64 m, .int .i64 k, .int .i64 v, .int .u64 u] w fun e w' => e = .returned (.int .u64 (sealOf m k v u)) ∧ Below w.heap.size w w' := by
  have lm : (Lib.itoa m).length ≤ 21 := Lib.itoa_length_le m m0 m1
  have lk : (Lib.itoa k).length ≤ 21 := Lib.itoa_length_le k k0 k1
  have lv : (Lib.itoa v).length ≤ 21 := Lib.itoa_length_le v v0 v1
  have lu : (Lib.decDigits u).length ≤ 20 := digits_len u hu
  go_enter Tryz.func25, Tryz.ntmps25
  go_wp2_with (first
    | (go_at_call 51; refine (rsigned _ (by assumption) (by assumption) _).mono ?_; rintro e w1 ⟨rfl, hb⟩)
    | (go_at_call 52; refine (rdigits _ (by assumption) _).mono ?_; rintro e w1 ⟨rfl, hb⟩)
    | (go_at_call 50; refine (rhash _ _ (seal_size m k v u lm lk lv lu)).mono ?_; rintro e w1 ⟨rfl, rfl⟩))
  go_ret
  refine ⟨rfl, ?_⟩
  rename_i b1 _ b2 _ b3
  exact ((b1.trans (b2.mono b1.size)).trans (b3.mono (Nat.le_trans b1.size b2.size))).trans (hb.mono (Nat.le_trans b1.size (Nat.le_trans b2.size b3.size)))

end Go.Proofs.YtkehpnobidendaaGreatDoor
