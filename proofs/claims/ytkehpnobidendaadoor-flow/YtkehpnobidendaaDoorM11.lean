/- The law's own small helpers: pick; sameCert and sameLetter, where both are one. The law's own record in memory (LMem); a block is met (meets). -/
import Derived.Test.YtkehpnobidendaaDoorM10
import Derived.Deep.Cut
import Derived.Deep.RegionLaw
import Derived.Deep.DeepCutAuto
namespace Go.Proofs.YtkehpnobidendaaDoor
open Go.RowKit

/-- Which of n things a raw number speaks of. -/
def pickN (c : Int) (n : Nat) : Nat := ((if c < 0 then -(c + 1) else c) % n).toNat
theorem pickN_lt (c : Int) (n : Nat) (hn : 0 < n) : pickN c n < n := by
  unfold pickN
  have h1 := Int.emod_nonneg (if c < 0 then -(c + 1) else c) (show (n : Int) ≠ 0 by omega)
  have h2 := Int.emod_lt_of_pos (if c < 0 then -(c + 1) else c) (show (0 : Int) < n by omega)
  omega
theorem pickN_cast (c : Int) (n : Nat) (hn : 0 < n) : ((pickN c n : Nat) : Int) = (if c < 0 then -(c + 1) else c) % n :=
  Int.toNat_of_nonneg (Int.emod_nonneg _ (by omega))

end Go.Proofs.YtkehpnobidendaaDoor

namespace Go.Proofs.YtkehpnobidendaaDoor
open Go.RowKit
attribute [local go_sem ↓] load_blk

/-- The law's record. -/
structure Law where
  members : List (Nat × Nat)
  letters : List Ltr
  blocks : List Blk
  over : Bool
  texts : List Value
  tm : List ByteArray
  outs : List Value
  om : List Int
  count : Int
def pcells (x : Nat × Nat) : List Value := [.pointer (some ⟨x.1, 0, none⟩), .pointer (some ⟨x.2, 0, none⟩)]
def vcells (v : Value) : List Value := [v]
def lcells (L : Law) (vm vl vb vt vs vo vn : Value) : Array Value := #[vm, vl, vb, .bool L.over, vt, vs, vo, vn, .int .i64 L.count]
def lX (L : Law) : List (Nat × List Value) :=
  [(L.members.length, L.members.flatMap pcells), (L.letters.length, L.letters.flatMap Ltr.cells), (L.blocks.length, L.blocks.flatMap Blk.cells), (L.texts.length, L.texts.flatMap vcells), (L.tm.length, L.tm.flatMap scells), (L.outs.length, L.outs.flatMap vcells), (L.om.length, L.om.flatMap icells)]
theorem info_block : (Tryd.prog.info? 38).map (fun i => (i.zero, i.size, i.bytes)) = some (some (.agg Blk.zero.cells.toArray), 8, 72) := by kernel_rfl
theorem bcells_len (b : Blk) : b.cells.length = 8 := rfl

/-- The first block of a number among those that were met. -/
def firstOf (n : Nat) : List Blk → Option Blk
  | [] => none
  | o :: r => if o.num = n then some o else firstOf n r
/-- Two blocks of one number that are not one block. -/
def Blk.other (o b : Blk) : Bool := o.view != b.view || ((o.just.block : Int) != (b.just.block : Int) || !(o.cmd.toList == b.cmd.toList))
/-- A block is met. -/
def Law.meets (L : Law) (b : Blk) : Law :=
  match firstOf b.num L.blocks with
  | some o => { L with over := L.over || b.num == 0 || o.other b }
  | none => { L with over := L.over || b.num == 0, blocks := L.blocks ++ [b] }
theorem firstOf_hit (n : Nat) : ∀ (l : List Blk) (k : Nat) (hk : k < l.length), (∀ (j : Nat) (hj : j < l.length), j < k → (l[j]).num ≠ n) → (l[k]).num = n → firstOf n l = some l[k]
  | a :: r, 0, _, _, h => by simp at h; simp [firstOf, h]
  | a :: r, k + 1, hk, hb, h => by
    have h0 := hb 0 (by simp) (by omega)
    simp at h0
    simp only [firstOf, if_neg h0, List.getElem_cons_succ]
    exact firstOf_hit n r k (by simpa using hk) (fun j hj hjk => by have := hb (j + 1) (by simpa using hj) (by omega); simpa using this) (by simpa using h)
theorem firstOf_miss (n : Nat) : ∀ (l : List Blk), (∀ (j : Nat) (hj : j < l.length), (l[j]).num ≠ n) → firstOf n l = none
  | [], _ => rfl
  | a :: r, hb => by
    have h0 := hb 0 (by simp)
    simp at h0
    simp only [firstOf, if_neg h0]
    exact firstOf_miss n r (fun j hj => by have := hb (j + 1) (by simpa using hj); simpa using this)
theorem nat_zero (n : Nat) : ((n : Int) == 0) = (n == 0) := by rw [Bool.eq_iff_iff]; simp
end Go.Proofs.YtkehpnobidendaaDoor
