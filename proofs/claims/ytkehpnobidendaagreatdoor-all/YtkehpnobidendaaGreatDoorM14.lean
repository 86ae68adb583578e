/- The law's own small helpers: pick; sameCert and sameLetter, where both are one. The law's own record in memory (LMem); a block is met (meets). Lists that came out and are written over by their owner: a slice all of whose elements are one mark (Marked), and what its owner's append makes of the slices that were kept of it. What holds while the law's 'strings' writes a list over, outside its walk. The law's 'strings': a list of texts came out: its owner writes it over, appends to it, and keeps four slices of it; all of them read as the mark. A great element written over in its place: what a store of its cells makes of the row. What holds while the law's 'sent' writes a list of letters over, outside its walk. -/
import Derived.Test.YtkehpnobidendaaGreatDoorM13
import Derived.Deep.Cut
import Derived.Deep.RegionLaw
import Derived.Deep.DeepCutAuto
namespace Go.Proofs.YtkehpnobidendaaGreatDoor
open Go.RowKit

/-- Which of n things a raw number speaks of. -/
def pickN (c : Int) (n : Nat) : Nat := ((if c < 0 then -(c + 1) else c) % n).toNat
theorem pickN_lt (c : Int) (n : Nat) (hn : 0 < n) : pickN c n < n := by
  unfold pickN
  have h1 := Int.emod_nonneg (if c < 0 then -(c + 1) else c) (show (n : Int) ≠ 0 by omega)
  have h2 := Int.emod_lt_of_pos (if c < 0 then -(c + 1) else c) (show (0 : Int) < n by omega)
  omega
theorem pickN_cast (c : Int) (n : Nat) (hn : 0 < n) : ((pickN c n : Nat) : Int) = (if c < 0 then -(c + 1) else c) % n :=
  Int.toNat_of_nonneg (Int.emod_nonneg _ (by omega))

set_option maxHeartbeats 400000 in
theorem lpick (c : Int) (n : Nat) (c0 : -9223372036854775808 ≤ c) (c1 : c ≤ 9223372036854775807) (hn : 0 < n) (hn1 : n ≤ 9223372036854775807) (w : World) :
    Calls Tryz.prog 10 #[.int .i64 c, .int .i64 n] w fun e w' => e = .returned (.int .i64 (pickN c n)) ∧ w' = w := by
  have hni : (n : Int) ≠ 0 := by omega
  have hnp : (0 : Int) < (n : Int) := by omega
  by_cases h : c < 0
  · have HP : Hid (((pickN c n : Nat) : Int) = (-(c + 1)) % n) := by have := pickN_cast c n hn; rw [if_pos h] at this; exact this
    go_enter Tryz.func10, Tryz.ntmps10
    go_wp2
    go_ret
    refine ⟨?_, rfl⟩
    show Ending.returned (.int .i64 (-(c + 1).tmod n)) = _
    rw [HP.out, ← Int.neg_tmod, Int.tmod_eq_emod_of_nonneg (by omega)]
  · have HP : Hid (((pickN c n : Nat) : Int) = c % n) := by have := pickN_cast c n hn; rw [if_neg h] at this; exact this
    go_enter Tryz.func10, Tryz.ntmps10
    go_wp2
    go_ret
    rw [HP.out]
    exact ⟨rfl, rfl⟩

set_option maxRecDepth 100000 in
set_option maxHeartbeats 1000000 in
theorem lsameCert (v : Int) (b : Nat) (s0 s1 s2 s3 : Int) (w : World) :
    Calls Tryz.prog 15 #[.agg #[.int .i64 v, .int .u64 b, .int .u64 s0, .int .u64 s1, .int .u64 s2, .int .u64 s3], .agg #[.int .i64 v, .int .u64 b, .int .u64 s0, .int .u64 s1, .int .u64 s2, .int .u64 s3]] w fun e w' => e = .returned (.bool true) ∧ Below w.heap.size w w' := by
  go_enter Tryz.func15, Tryz.ntmps15
  go_wp2
  go_ret
  exact ⟨rfl, bnext ((Below.refl _ _).alloc (Nat.le_refl _) _) ((Below.refl _ _).alloc (Nat.le_refl _) _)⟩

set_option maxRecDepth 100000 in
set_option maxHeartbeats 2000000 in
theorem lsameLetter (x : Ltr) (w : World) :
    Calls Tryz.prog 23 #[.agg x.cells.toArray, .agg x.cells.toArray] w fun e w' => e = .returned (.bool true) ∧ Below w.heap.size w w' := by
  obtain ⟨l0, ⟨xk, xf, xv, ⟨bv, ⟨jv, jb, j0, j1, j2, j3⟩, bc⟩, nu, ⟨cv, cb, k0, k1, k2, k3⟩, sl⟩⟩ := x
  dsimp only [Ltr.cells, Msg.cells]
  have HS := lsameCert
  have a1 : ((w.alloc (.cells #[.int .i64 l0, .int .i64 xk, .int .i64 xf, .int .i64 xv, .int .i64 bv, .int .i64 jv, .int .u64 jb, .int .u64 j0, .int .u64 j1, .int .u64 j2, .int .u64 j3, .string bc, .int .u64 nu, .int .i64 cv, .int .u64 cb, .int .u64 k0, .int .u64 k1, .int .u64 k2, .int .u64 k3, .int .u64 sl] 67)).alloc (.cells #[.int .i64 l0, .int .i64 xk, .int .i64 xf, .int .i64 xv, .int .i64 bv, .int .i64 jv, .int .u64 jb, .int .u64 j0, .int .u64 j1, .int .u64 j2, .int .u64 j3, .string bc, .int .u64 nu, .int .i64 cv, .int .u64 cb, .int .u64 k0, .int .u64 k1, .int .u64 k2, .int .u64 k3, .int .u64 sl] 67)).heap[w.heap.size]? = some (.cells #[.int .i64 l0, .int .i64 xk, .int .i64 xf, .int .i64 xv, .int .i64 bv, .int .i64 jv, .int .u64 jb, .int .u64 j0, .int .u64 j1, .int .u64 j2, .int .u64 j3, .string bc, .int .u64 nu, .int .i64 cv, .int .u64 cb, .int .u64 k0, .int .u64 k1, .int .u64 k2, .int .u64 k3, .int .u64 sl] 67) := by rw [Below.heap_alloc _ _ _ (by simp)]; exact heap_alloc_new _ _
  have a2 : ((w.alloc (.cells #[.int .i64 l0, .int .i64 xk, .int .i64 xf, .int .i64 xv, .int .i64 bv, .int .i64 jv, .int .u64 jb, .int .u64 j0, .int .u64 j1, .int .u64 j2, .int .u64 j3, .string bc, .int .u64 nu, .int .i64 cv, .int .u64 cb, .int .u64 k0, .int .u64 k1, .int .u64 k2, .int .u64 k3, .int .u64 sl] 67)).alloc (.cells #[.int .i64 l0, .int .i64 xk, .int .i64 xf, .int .i64 xv, .int .i64 bv, .int .i64 jv, .int .u64 jb, .int .u64 j0, .int .u64 j1, .int .u64 j2, .int .u64 j3, .string bc, .int .u64 nu, .int .i64 cv, .int .u64 cb, .int .u64 k0, .int .u64 k1, .int .u64 k2, .int .u64 k3, .int .u64 sl] 67)).heap[w.heap.size + 1]? = some (.cells #[.int .i64 l0, .int .i64 xk, .int .i64 xf, .int .i64 xv, .int .i64 bv, .int .i64 jv, .int .u64 jb, .int .u64 j0, .int .u64 j1, .int .u64 j2, .int .u64 j3, .string bc, .int .u64 nu, .int .i64 cv, .int .u64 cb, .int .u64 k0, .int .u64 k1, .int .u64 k2, .int .u64 k3, .int .u64 sl] 67) := by have := heap_alloc_new (w.alloc (.cells #[.int .i64 l0, .int .i64 xk, .int .i64 xf, .int .i64 xv, .int .i64 bv, .int .i64 jv, .int .u64 jb, .int .u64 j0, .int .u64 j1, .int .u64 j2, .int .u64 j3, .string bc, .int .u64 nu, .int .i64 cv, .int .u64 cb, .int .u64 k0, .int .u64 k1, .int .u64 k2, .int .u64 k3, .int .u64 sl] 67)) (.cells #[.int .i64 l0, .int .i64 xk, .int .i64 xf, .int .i64 xv, .int .i64 bv, .int .i64 jv, .int .u64 jb, .int .u64 j0, .int .u64 j1, .int .u64 j2, .int .u64 j3, .string bc, .int .u64 nu, .int .i64 cv, .int .u64 cb, .int .u64 k0, .int .u64 k1, .int .u64 k2, .int .u64 k3, .int .u64 sl] 67); simpa using this
  have hA : ∀ j : Nat, ((w.alloc (.cells #[.int .i64 l0, .int .i64 xk, .int .i64 xf, .int .i64 xv, .int .i64 bv, .int .i64 jv, .int .u64 jb, .int .u64 j0, .int .u64 j1, .int .u64 j2, .int .u64 j3, .string bc, .int .u64 nu, .int .i64 cv, .int .u64 cb, .int .u64 k0, .int .u64 k1, .int .u64 k2, .int .u64 k3, .int .u64 sl] 67)).alloc (.cells #[.int .i64 l0, .int .i64 xk, .int .i64 xf, .int .i64 xv, .int .i64 bv, .int .i64 jv, .int .u64 jb, .int .u64 j0, .int .u64 j1, .int .u64 j2, .int .u64 j3, .string bc, .int .u64 nu, .int .i64 cv, .int .u64 cb, .int .u64 k0, .int .u64 k1, .int .u64 k2, .int .u64 k3, .int .u64 sl] 67)).cell? ⟨w.heap.size, j, none⟩ = (#[.int .i64 l0, .int .i64 xk, .int .i64 xf, .int .i64 xv, .int .i64 bv, .int .i64 jv, .int .u64 jb, .int .u64 j0, .int .u64 j1, .int .u64 j2, .int .u64 j3, .string bc, .int .u64 nu, .int .i64 cv, .int .u64 cb, .int .u64 k0, .int .u64 k1, .int .u64 k2, .int .u64 k3, .int .u64 sl] : Array Value)[j]? := fun j => cell_at a1 j
  have hB : ∀ j : Nat, ((w.alloc (.cells #[.int .i64 l0, .int .i64 xk, .int .i64 xf, .int .i64 xv, .int .i64 bv, .int .i64 jv, .int .u64 jb, .int .u64 j0, .int .u64 j1, .int .u64 j2, .int .u64 j3, .string bc, .int .u64 nu, .int .i64 cv, .int .u64 cb, .int .u64 k0, .int .u64 k1, .int .u64 k2, .int .u64 k3, .int .u64 sl] 67)).alloc (.cells #[.int .i64 l0, .int .i64 xk, .int .i64 xf, .int .i64 xv, .int .i64 bv, .int .i64 jv, .int .u64 jb, .int .u64 j0, .int .u64 j1, .int .u64 j2, .int .u64 j3, .string bc, .int .u64 nu, .int .i64 cv, .int .u64 cb, .int .u64 k0, .int .u64 k1, .int .u64 k2, .int .u64 k3, .int .u64 sl] 67)).cell? ⟨w.heap.size + 1, j, none⟩ = (#[.int .i64 l0, .int .i64 xk, .int .i64 xf, .int .i64 xv, .int .i64 bv, .int .i64 jv, .int .u64 jb, .int .u64 j0, .int .u64 j1, .int .u64 j2, .int .u64 j3, .string bc, .int .u64 nu, .int .i64 cv, .int .u64 cb, .int .u64 k0, .int .u64 k1, .int .u64 k2, .int .u64 k3, .int .u64 sl] : Array Value)[j]? := fun j => cell_at a2 j
  have A1 : Hid (((w.alloc (.cells #[.int .i64 l0, .int .i64 xk, .int .i64 xf, .int .i64 xv, .int .i64 bv, .int .i64 jv, .int .u64 jb, .int .u64 j0, .int .u64 j1, .int .u64 j2, .int .u64 j3, .string bc, .int .u64 nu, .int .i64 cv, .int .u64 cb, .int .u64 k0, .int .u64 k1, .int .u64 k2, .int .u64 k3, .int .u64 sl] 67)).alloc (.cells #[.int .i64 l0, .int .i64 xk, .int .i64 xf, .int .i64 xv, .int .i64 bv, .int .i64 jv, .int .u64 jb, .int .u64 j0, .int .u64 j1, .int .u64 j2, .int .u64 j3, .string bc, .int .u64 nu, .int .i64 cv, .int .u64 cb, .int .u64 k0, .int .u64 k1, .int .u64 k2, .int .u64 k3, .int .u64 sl] 67)).heap[w.heap.size]? = some (.cells #[.int .i64 l0, .int .i64 xk, .int .i64 xf, .int .i64 xv, .int .i64 bv, .int .i64 jv, .int .u64 jb, .int .u64 j0, .int .u64 j1, .int .u64 j2, .int .u64 j3, .string bc, .int .u64 nu, .int .i64 cv, .int .u64 cb, .int .u64 k0, .int .u64 k1, .int .u64 k2, .int .u64 k3, .int .u64 sl] 67)) := a1
  have A2 : Hid (((w.alloc (.cells #[.int .i64 l0, .int .i64 xk, .int .i64 xf, .int .i64 xv, .int .i64 bv, .int .i64 jv, .int .u64 jb, .int .u64 j0, .int .u64 j1, .int .u64 j2, .int .u64 j3, .string bc, .int .u64 nu, .int .i64 cv, .int .u64 cb, .int .u64 k0, .int .u64 k1, .int .u64 k2, .int .u64 k3, .int .u64 sl] 67)).alloc (.cells #[.int .i64 l0, .int .i64 xk, .int .i64 xf, .int .i64 xv, .int .i64 bv, .int .i64 jv, .int .u64 jb, .int .u64 j0, .int .u64 j1, .int .u64 j2, .int .u64 j3, .string bc, .int .u64 nu, .int .i64 cv, .int .u64 cb, .int .u64 k0, .int .u64 k1, .int .u64 k2, .int .u64 k3, .int .u64 sl] 67)).heap[w.heap.size + 1]? = some (.cells #[.int .i64 l0, .int .i64 xk, .int .i64 xf, .int .i64 xv, .int .i64 bv, .int .i64 jv, .int .u64 jb, .int .u64 j0, .int .u64 j1, .int .u64 j2, .int .u64 j3, .string bc, .int .u64 nu, .int .i64 cv, .int .u64 cb, .int .u64 k0, .int .u64 k1, .int .u64 k2, .int .u64 k3, .int .u64 sl] 67)) := a2
  have HB0 : Hid (Below w.heap.size w ((w.alloc (.cells #[.int .i64 l0, .int .i64 xk, .int .i64 xf, .int .i64 xv, .int .i64 bv, .int .i64 jv, .int .u64 jb, .int .u64 j0, .int .u64 j1, .int .u64 j2, .int .u64 j3, .string bc, .int .u64 nu, .int .i64 cv, .int .u64 cb, .int .u64 k0, .int .u64 k1, .int .u64 k2, .int .u64 k3, .int .u64 sl] 67)).alloc (.cells #[.int .i64 l0, .int .i64 xk, .int .i64 xf, .int .i64 xv, .int .i64 bv, .int .i64 jv, .int .u64 jb, .int .u64 j0, .int .u64 j1, .int .u64 j2, .int .u64 j3, .string bc, .int .u64 nu, .int .i64 cv, .int .u64 cb, .int .u64 k0, .int .u64 k1, .int .u64 k2, .int .u64 k3, .int .u64 sl] 67))) := bnext ((Below.refl _ _).alloc (Nat.le_refl _) _) ((Below.refl _ _).alloc (Nat.le_refl _) _)
  clear a1 a2
  go_enter Tryz.func23, Tryz.ntmps23
  go_upto_region 1 with fail
  generalize (w.alloc (.cells #[.int .i64 l0, .int .i64 xk, .int .i64 xf, .int .i64 xv, .int .i64 bv, .int .i64 jv, .int .u64 jb, .int .u64 j0, .int .u64 j1, .int .u64 j2, .int .u64 j3, .string bc, .int .u64 nu, .int .i64 cv, .int .u64 cb, .int .u64 k0, .int .u64 k1, .int .u64 k2, .int .u64 k3, .int .u64 sl] 67)).alloc (.cells #[.int .i64 l0, .int .i64 xk, .int .i64 xf, .int .i64 xv, .int .i64 bv, .int .i64 jv, .int .u64 jb, .int .u64 j0, .int .u64 j1, .int .u64 j2, .int .u64 j3, .string bc, .int .u64 nu, .int .i64 cv, .int .u64 cb, .int .u64 k0, .int .u64 k1, .int .u64 k2, .int .u64 k3, .int .u64 sl] 67) = W at *
  go_upto_region 2 with (go_at_call 15; refine (HS _ _ _ _ _ _ _).mono ?_; rintro e w1 ⟨rfl, hb⟩)
  have hA1 : ∀ j : Nat, w1.cell? ⟨w.heap.size, j, none⟩ = (#[.int .i64 l0, .int .i64 xk, .int .i64 xf, .int .i64 xv, .int .i64 bv, .int .i64 jv, .int .u64 jb, .int .u64 j0, .int .u64 j1, .int .u64 j2, .int .u64 j3, .string bc, .int .u64 nu, .int .i64 cv, .int .u64 cb, .int .u64 k0, .int .u64 k1, .int .u64 k2, .int .u64 k3, .int .u64 sl] : Array Value)[j]? := fun j => cell_at (box_below A1.out hb) j
  have hB1 : ∀ j : Nat, w1.cell? ⟨w.heap.size + 1, j, none⟩ = (#[.int .i64 l0, .int .i64 xk, .int .i64 xf, .int .i64 xv, .int .i64 bv, .int .i64 jv, .int .u64 jb, .int .u64 j0, .int .u64 j1, .int .u64 j2, .int .u64 j3, .string bc, .int .u64 nu, .int .i64 cv, .int .u64 cb, .int .u64 k0, .int .u64 k1, .int .u64 k2, .int .u64 k3, .int .u64 sl] : Array Value)[j]? := fun j => cell_at (box_below A2.out hb) j
  clear hA hB
  go_upto_region 3 with (go_at_call 15; refine (HS _ _ _ _ _ _ _).mono ?_; rintro e w2 ⟨rfl, hb2⟩)
  have hA2 : ∀ j : Nat, w2.cell? ⟨w.heap.size, j, none⟩ = (#[.int .i64 l0, .int .i64 xk, .int .i64 xf, .int .i64 xv, .int .i64 bv, .int .i64 jv, .int .u64 jb, .int .u64 j0, .int .u64 j1, .int .u64 j2, .int .u64 j3, .string bc, .int .u64 nu, .int .i64 cv, .int .u64 cb, .int .u64 k0, .int .u64 k1, .int .u64 k2, .int .u64 k3, .int .u64 sl] : Array Value)[j]? := fun j => cell_at (box_below (box_below A1.out hb) hb2) j
  have hB2 : ∀ j : Nat, w2.cell? ⟨w.heap.size + 1, j, none⟩ = (#[.int .i64 l0, .int .i64 xk, .int .i64 xf, .int .i64 xv, .int .i64 bv, .int .i64 jv, .int .u64 jb, .int .u64 j0, .int .u64 j1, .int .u64 j2, .int .u64 j3, .string bc, .int .u64 nu, .int .i64 cv, .int .u64 cb, .int .u64 k0, .int .u64 k1, .int .u64 k2, .int .u64 k3, .int .u64 sl] : Array Value)[j]? := fun j => cell_at (box_below (box_below A2.out hb) hb2) j
  clear hA1 hB1
  go_wp2
  go_ret
  exact ⟨rfl, bnext (bnext HB0.out hb) hb2⟩
end Go.Proofs.YtkehpnobidendaaGreatDoor

namespace Go.Proofs.YtkehpnobidendaaGreatDoor
open Go.RowKit
attribute [local go_sem ↓] load_blk

/-- The law's record. -/
structure Law where
  members : List (Nat × Nat)
  letters : List Ltr
  blocks : List Blk
  over : Bool
  texts : List Value
  tm : List ByteArray
  outs : List Value
  om : List Int
  count : Int
def pcells (x : Nat × Nat) : List Value := [.pointer (some ⟨x.1, 0, none⟩), .pointer (some ⟨x.2, 0, none⟩)]
def vcells (v : Value) : List Value := [v]
def lcells (L : Law) (vm vl vb vt vs vo vn : Value) : Array Value := #[vm, vl, vb, .bool L.over, vt, vs, vo, vn, .int .i64 L.count]
def lE : List (TypeId × Nat) := [(50, 2), (67, 20), (41, 8), (30, 1), (9, 1), (27, 1), (3, 1)]
def lX (L : Law) : List (Nat × List Value) :=
  [(L.members.length, L.members.flatMap pcells), (L.letters.length, L.letters.flatMap Ltr.cells), (L.blocks.length, L.blocks.flatMap Blk.cells), (L.texts.length, L.texts.flatMap vcells), (L.tm.length, L.tm.flatMap scells), (L.outs.length, L.outs.flatMap vcells), (L.om.length, L.om.flatMap icells)]
structure LMem (w : World) (p : Nat) (S : Nat → Prop) (L : Law) : Prop where
  ex : ∃ vm vl vb vt vs vo vn, Bun w p 34 S (lcells L vm vl vb vt vs vo vn) [vm, vl, vb, vt, vs, vo, vn] lE (lX L)
theorem LMem.below {w w' : World} {p : Nat} {S : Nat → Prop} {L : Law} (h : LMem w p S L) (hf : Below w.heap.size w w') : LMem w' p S L := by
  obtain ⟨vm, vl, vb, vt, vs, vo, vn, h⟩ := h
  exact ⟨vm, vl, vb, vt, vs, vo, vn, h.below hf⟩
theorem LMem.fr {w w' : World} {p : Nat} {S Z : Nat → Prop} {L : Law} (h : LMem w p S L) (hf : Fr Z w w') (hz : ∀ k, S k → ¬ Z k) : LMem w' p S L := by
  obtain ⟨vm, vl, vb, vt, vs, vo, vn, h⟩ := h
  exact ⟨vm, vl, vb, vt, vs, vo, vn, h.fr hf hz⟩
theorem info_block : (Tryz.prog.info? 41).map (fun i => (i.zero, i.size, i.bytes)) = some (some (.agg Blk.zero.cells.toArray), 8, 72) := by kernel_rfl
theorem bcells_len (b : Blk) : b.cells.length = 8 := rfl

/-- The first block of a number among those that were met. -/
def firstOf (n : Nat) : List Blk → Option Blk
  | [] => none
  | o :: r => if o.num = n then some o else firstOf n r
/-- Two blocks of one number that are not one block. -/
def Blk.other (o b : Blk) : Bool := o.view != b.view || ((o.just.block : Int) != (b.just.block : Int) || !(o.cmd.toList == b.cmd.toList))
/-- A block is met. -/
def Law.meets (L : Law) (b : Blk) : Law :=
  match firstOf b.num L.blocks with
  | some o => { L with over := L.over || b.num == 0 || o.other b }
  | none => { L with over := L.over || b.num == 0, blocks := L.blocks ++ [b] }
theorem firstOf_hit (n : Nat) : ∀ (l : List Blk) (k : Nat) (hk : k < l.length), (∀ (j : Nat) (hj : j < l.length), j < k → (l[j]).num ≠ n) → (l[k]).num = n → firstOf n l = some l[k]
  | a :: r, 0, _, _, h => by simp at h; simp [firstOf, h]
  | a :: r, k + 1, hk, hb, h => by
    have h0 := hb 0 (by simp) (by omega)
    simp at h0
    simp only [firstOf, if_neg h0, List.getElem_cons_succ]
    exact firstOf_hit n r k (by simpa using hk) (fun j hj hjk => by have := hb (j + 1) (by simpa using hj) (by omega); simpa using this) (by simpa using h)
theorem firstOf_miss (n : Nat) : ∀ (l : List Blk), (∀ (j : Nat) (hj : j < l.length), (l[j]).num ≠ n) → firstOf n l = none
  | [], _ => rfl
  | a :: r, hb => by
    have h0 := hb 0 (by simp)
    simp at h0
    simp only [firstOf, if_neg h0]
    exact firstOf_miss n r (fun j hj => by have := hb (j + 1) (by simpa using hj); simpa using this)
/-- A store into the record (no slice). -/
theorem LMem.over {w : World} {p : Nat} {S : Nat → Prop} {L : Law} (h : LMem w p S L) (b : Bool) : LMem (w.setCell ⟨p, 3, none⟩ (.bool b)) p S { L with over := b } := by
  obtain ⟨vm, vl, vb, vt, vs, vo, vn, h⟩ := h
  exact ⟨vm, vl, vb, vt, vs, vo, vn, h.store 3 _ rfl⟩
theorem LMem.sp {w : World} {p : Nat} {S : Nat → Prop} {L : Law} (h : LMem w p S L) : S p := by
  obtain ⟨vm, vl, vb, vt, vs, vo, vn, h⟩ := h
  exact h.sp
theorem nat_zero (n : Nat) : ((n : Int) == 0) = (n == 0) := by rw [Bool.eq_iff_iff]; simp
theorem LMem.lt {w : World} {p : Nat} {S : Nat → Prop} {L : Law} (h : LMem w p S L) : p < w.heap.size := by
  obtain ⟨vm, vl, vb, vt, vs, vo, vn, h⟩ := h
  exact lt_at h.box
theorem LMem.fz {w : World} {p : Nat} {S : Nat → Prop} {L : Law} (h : LMem w p S L) : ∀ i, w.frozen? ⟨p, i, none⟩ = false := by
  obtain ⟨vm, vl, vb, vt, vs, vo, vn, h⟩ := h
  exact free_at h.box
theorem LMem.ov {w : World} {p : Nat} {S : Nat → Prop} {L : Law} (h : LMem w p S L) : w.cell? ⟨p, 3, none⟩ = some (.bool L.over) := by
  obtain ⟨vm, vl, vb, vt, vs, vo, vn, h⟩ := h
  exact cell_at h.box 3
theorem LMem.own {w : World} {p : Nat} {S : Nat → Prop} {L : Law} (h : LMem w p S L) : ∀ k, S k → k < w.heap.size := by
  obtain ⟨vm, vl, vb, vt, vs, vo, vn, h⟩ := h
  exact h.lt

set_option maxRecDepth 100000 in
set_option maxHeartbeats 2000000 in
theorem lmeets (w : World) (p : Nat) (S : Nat → Prop) (L : Law) (h : LMem w p S L) (b : Blk) (hb : b.Ok) (hall : ∀ o ∈ L.blocks, o.Ok) (hn : L.blocks.length ≤ 1900000000000) :
    Calls Tryz.prog 44 #[.pointer (some ⟨p, 0, none⟩), .agg b.cells.toArray] w fun e w' => e = .returned (.tuple #[]) ∧ ∃ S', LMem w' p S' (L.meets b) ∧ Grow S w S' ∧ Fr S w w' := by
  have HN := rnum b hb
  have hlt := num_lt b
  obtain ⟨nb, hnb⟩ : ∃ x, x = b.num := ⟨_, rfl⟩
  rw [← hnb] at HN hlt
  have HNB : Hid (nb = b.num) := hnb
  have HALL : Hid (∀ o ∈ L.blocks, o.Ok) := hall
  have HM : Hid (LMem w p S L) := h
  clear hnb hall hb
  obtain ⟨bv, ⟨jv, jb, j0, j1, j2, j3⟩, bc⟩ := b
  dsimp only [Blk.cells] at HN ⊢
  obtain ⟨vm, vl, vb, vt, vs, vo, vn, h⟩ := h
  have c3 : ∀ o, (w.alloc o).cell? ⟨p, 3, none⟩ = some (.bool L.over) := fun o => cell_at (h.alloc o).box 3
  clear h
  go_enter Tryz.func44, Tryz.ntmps44
  go_upto_region 1 with fail
  have HX0 : Hid ((w.alloc (.cells #[.int .i64 bv, .int .i64 jv, .int .u64 jb, .int .u64 j0, .int .u64 j1, .int .u64 j2, .int .u64 j3, .string bc] 41)).heap[w.heap.size]? = some (.cells #[.int .i64 bv, .int .i64 jv, .int .u64 jb, .int .u64 j0, .int .u64 j1, .int .u64 j2, .int .u64 j3, .string bc] 41)) := heap_alloc_new w _
  have hl0 : (rowVar 41 ⟨w.heap.size, 0, none⟩).run Tryz.prog (w.alloc (.cells #[.int .i64 bv, .int .i64 jv, .int .u64 jb, .int .u64 j0, .int .u64 j1, .int .u64 j2, .int .u64 j3, .string bc] 41)) = .ok (.agg #[.int .i64 bv, .int .i64 jv, .int .u64 jb, .int .u64 j0, .int .u64 j1, .int .u64 j2, .int .u64 j3, .string bc]) (w.alloc (.cells #[.int .i64 bv, .int .i64 jv, .int .u64 jb, .int .u64 j0, .int .u64 j1, .int .u64 j2, .int .u64 j3, .string bc] 41)) := blk_whole _ _ _ HX0.out rfl
  go_upto_region 2 with (go_at_call 27; refine (HN _).mono ?_; rintro e w1 ⟨rfl, hb1⟩; have q3 : w1.cell? ⟨p, 3, none⟩ = some (.bool L.over) := (hb1.cell (p := ⟨p, 3, none⟩) (Nat.lt_of_lt_of_le HM.out.lt (by simp))).trans (c3 _); have fz1 : ∀ i, w1.frozen? ⟨p, i, none⟩ = false := ((HM.out.below ((Below.refl _ _).alloc (Nat.le_refl _) _)).below hb1).fz)
  go_cut [] (fun w' => w1.setCell ⟨p, 3, none⟩ (.bool (L.over || nb == 0)) = w')
  case first =>
    have HOV : Hid (L.over = L.over) := rfl
    revert HOV
    generalize hov : L.over = ov
    intro _
    rcases ov with _ | _
    · go_wp2
      go_meet
      case rel => rw [hov, nat_zero]; rfl
    · go_wp2
      go_meet
      case rel => rw [hov]; rfl
  case rest =>
    have HM1 : Hid (LMem wc p S { L with over := L.over || nb == 0 }) := by rw [← hcut]; exact ((HM.out.below ((Below.refl _ _).alloc (Nat.le_refl _) _)).below hb1).over _
    have HX1 : Hid (wc.heap[w.heap.size]? = some (.cells #[.int .i64 bv, .int .i64 jv, .int .u64 jb, .int .u64 j0, .int .u64 j1, .int .u64 j2, .int .u64 j3, .string bc] 41)) := by
      rw [← hcut]
      show (w1.setCell ⟨p, 3, none⟩ _).heap[w.heap.size]? = _
      rw [heap_store_ne _ (fun e => by have := HM.out.lt; omega)]
      exact box_below HX0.out hb1
    have HF1 : Hid (Fr S w wc) := by
      rw [← hcut]
      exact (Fr.of_below (S := S) (bnext ((Below.refl _ _).alloc (Nat.le_refl _) (.cells #[.int .i64 bv, .int .i64 jv, .int .u64 jb, .int .u64 j0, .int .u64 j1, .int .u64 j2, .int .u64 j3, .string bc] 41)) hb1)).trans (Fr.setCell w1 (S := S) HM.out.sp _) (fun _ h => .inl h)
    clear hcut q3 fz1 hb1 hl0 c3 HX0
    have HLT : Hid (w.heap.size < wc.heap.size) := lt_at HX1.out
    obtain ⟨um, ul, ub, ut, us, uo, un, h1⟩ := HM1.out
    have c2 : wc.cell? ⟨p, 2, none⟩ = some ub := cell_at h1.box 2
    have hp : p < wc.heap.size := lt_at h1.box
    have hr : Row wc S 41 8 ub L.blocks.length (L.blocks.flatMap Blk.cells) := h1.row 2 _ _ _ rfl rfl rfl
    obtain ⟨a, cap, rfl⟩ := hr.isSlice
    have HR : Hid (Row wc S 41 8 (.slice a L.blocks.length cap) L.blocks.length (L.blocks.flatMap Blk.cells)) := hr
    have H1 : Hid (Bun wc p 34 S (lcells { L with over := L.over || nb == 0 } um ul (.slice a L.blocks.length cap) ut us uo un) [um, ul, (.slice a L.blocks.length cap), ut, us, uo, un] lE (lX { L with over := L.over || nb == 0 })) := h1
    clear h1 hr
    go_wp2
    go_loopw [5] (fun i wr => ∃ k : Nat, k ≤ L.blocks.length ∧ i = .int .i64 k ∧ Hid (Below wc.heap.size wc wr) ∧ Hid (∀ (j : Nat) (hj : j < L.blocks.length), j < k → (L.blocks[j]).num ≠ nb)) (fun i _ => L.blocks.length - (intOf i).toNat)
    case atStart => exact ⟨0, by omega, rfl, Below.refl _ _, fun j hj h => by omega⟩
    case round =>
      obtain ⟨k, hk, rfl, hbw, hnot⟩ := hrel
      have d2 := (hbw.out.cell (p := ⟨p, 2, none⟩) hp).trans c2
      by_cases hlt2 : k < L.blocks.length
      · obtain ⟨g, off, rfl, hSg, hg, hcap⟩ := HR.out.place (by omega)
        have hrg : wr.rangeAt g (off + k * 8) L.blocks[k].cells := fun j v hv => (hbw.out.cell (p := ⟨g, off + k * 8 + j, none⟩) hg).trans (HR.out.elemAt bcells_len k hlt2 j v hv)
        have HNo := rnum L.blocks[k] (HALL.out _ (List.getElem_mem _))
        have hnk := num_lt L.blocks[k]
        have HHIT : Hid ((L.blocks[k]).num = nb → firstOf nb L.blocks = some L.blocks[k]) := fun h => firstOf_hit nb L.blocks k hlt2 hnot.out h
        have HNEXT : Hid ((L.blocks[k]).num ≠ nb → ∀ (j : Nat) (hj : j < L.blocks.length), j < k + 1 → (L.blocks[j]).num ≠ nb) := fun h j hj hjk => by
          by_cases hj' : j < k
          · exact hnot.out j hj hj'
          · have e : j = k := by omega
            subst e; exact h
        generalize L.blocks[k] = o at hrg HNo hnk HHIT HNEXT
        obtain ⟨no, hno⟩ : ∃ x, x = o.num := ⟨_, rfl⟩
        rw [← hno] at HNo hnk HHIT HNEXT
        clear hno
        obtain ⟨ov, ⟨pv, pb, p0, p1, p2, p3⟩, oc⟩ := o
        dsimp only [Blk.cells] at HNo hrg
        have hl1 : (rowVar 41 ⟨g, off + k * 8, none⟩).run Tryz.prog wr = .ok (.agg #[.int .i64 ov, .int .i64 pv, .int .u64 pb, .int .u64 p0, .int .u64 p1, .int .u64 p2, .int .u64 p3, .string oc]) wr := rowVar_mid wr g _ _ _ _ hrg Tryz.underlying41 rfl blk_size
        have hl2 : (rowVar 41 ⟨wr.heap.size, 0, none⟩).run Tryz.prog (wr.alloc (.cells #[.int .i64 ov, .int .i64 pv, .int .u64 pb, .int .u64 p0, .int .u64 p1, .int .u64 p2, .int .u64 p3, .string oc] 41)) = .ok (.agg #[.int .i64 ov, .int .i64 pv, .int .u64 pb, .int .u64 p0, .int .u64 p1, .int .u64 p2, .int .u64 p3, .string oc]) (wr.alloc (.cells #[.int .i64 ov, .int .i64 pv, .int .u64 pb, .int .u64 p0, .int .u64 p1, .int .u64 p2, .int .u64 p3, .string oc] 41)) := blk_whole _ _ _ (heap_alloc_new _ _) rfl
        clear hrg
        by_cases hnn : no = nb
        · have HH := HHIT.out hnn
          have HMT : Hid (L.meets ⟨bv, ⟨jv, jb, j0, j1, j2, j3⟩, bc⟩ = { L with over := L.over || nb == 0 || Blk.other ⟨ov, ⟨pv, pb, p0, p1, p2, p3⟩, oc⟩ ⟨bv, ⟨jv, jb, j0, j1, j2, j3⟩, bc⟩ }) := by
            show L.meets _ = _
            unfold Law.meets; rw [← HNB.out, HH]
          subst hnn
          clear HHIT HNEXT HH
          rcases Bool.eq_false_or_eq_true (ov != bv) with e1 | e1
          rotate_left
          · rcases Bool.eq_false_or_eq_true ((pb : Int) != (jb : Int)) with e2 | e2
            rotate_left
            · rcases Bool.eq_false_or_eq_true (oc.toList == bc.toList) with e3 | e3
              · go_wp2_with (go_at_call 27; refine (HNo _).mono ?_; rintro e w2 ⟨rfl, hb2⟩; have hA : ∀ j : Nat, w2.cell? ⟨wr.heap.size, j, none⟩ = (#[.int .i64 ov, .int .i64 pv, .int .u64 pb, .int .u64 p0, .int .u64 p1, .int .u64 p2, .int .u64 p3, .string oc] : Array Value)[j]? := fun j => cell_at (box_below (heap_alloc_new wr (.cells #[.int .i64 ov, .int .i64 pv, .int .u64 pb, .int .u64 p0, .int .u64 p1, .int .u64 p2, .int .u64 p3, .string oc] 41)) hb2) j; have hB : ∀ j : Nat, w2.cell? ⟨w.heap.size, j, none⟩ = (#[.int .i64 bv, .int .i64 jv, .int .u64 jb, .int .u64 j0, .int .u64 j1, .int .u64 j2, .int .u64 j3, .string bc] : Array Value)[j]? := fun j => cell_at (box_below (box_below (box_below HX1.out hbw.out) ((Below.refl _ _).alloc (Nat.le_refl _) (.cells #[.int .i64 ov, .int .i64 pv, .int .u64 pb, .int .u64 p0, .int .u64 p1, .int .u64 p2, .int .u64 p3, .string oc] 41))) hb2) j; have hM2 := ((HM1.out.below hbw.out).below ((Below.refl _ _).alloc (Nat.le_refl _) (.cells #[.int .i64 ov, .int .i64 pv, .int .u64 pb, .int .u64 p0, .int .u64 p1, .int .u64 p2, .int .u64 p3, .string oc] 41))).below hb2; have q3 := hM2.ov; have fz2 := hM2.fz; have HM2 : Hid _ := hM2; clear hM2)
                refine bodyPost_ret (results_none rfl _ _ _) rfl ?_
                rw [HMT.out]
                have eo : Blk.other ⟨ov, ⟨pv, pb, p0, p1, p2, p3⟩, oc⟩ ⟨bv, ⟨jv, jb, j0, j1, j2, j3⟩, bc⟩ = false := by simp only [Blk.other, e1, e2, e3]; rfl
                rw [eo, Bool.or_false]
                exact ⟨rfl, S, HM2.out, Grow.refl _ _, (HF1.out.trans (Fr.of_below (S := S) (bnext (bnext hbw.out ((Below.refl _ _).alloc (Nat.le_refl _) (.cells #[.int .i64 ov, .int .i64 pv, .int .u64 pb, .int .u64 p0, .int .u64 p1, .int .u64 p2, .int .u64 p3, .string oc] 41))) hb2)) (fun _ h => .inl h))⟩
              · go_wp2_with (go_at_call 27; refine (HNo _).mono ?_; rintro e w2 ⟨rfl, hb2⟩; have hA : ∀ j : Nat, w2.cell? ⟨wr.heap.size, j, none⟩ = (#[.int .i64 ov, .int .i64 pv, .int .u64 pb, .int .u64 p0, .int .u64 p1, .int .u64 p2, .int .u64 p3, .string oc] : Array Value)[j]? := fun j => cell_at (box_below (heap_alloc_new wr (.cells #[.int .i64 ov, .int .i64 pv, .int .u64 pb, .int .u64 p0, .int .u64 p1, .int .u64 p2, .int .u64 p3, .string oc] 41)) hb2) j; have hB : ∀ j : Nat, w2.cell? ⟨w.heap.size, j, none⟩ = (#[.int .i64 bv, .int .i64 jv, .int .u64 jb, .int .u64 j0, .int .u64 j1, .int .u64 j2, .int .u64 j3, .string bc] : Array Value)[j]? := fun j => cell_at (box_below (box_below (box_below HX1.out hbw.out) ((Below.refl _ _).alloc (Nat.le_refl _) (.cells #[.int .i64 ov, .int .i64 pv, .int .u64 pb, .int .u64 p0, .int .u64 p1, .int .u64 p2, .int .u64 p3, .string oc] 41))) hb2) j; have hM2 := ((HM1.out.below hbw.out).below ((Below.refl _ _).alloc (Nat.le_refl _) (.cells #[.int .i64 ov, .int .i64 pv, .int .u64 pb, .int .u64 p0, .int .u64 p1, .int .u64 p2, .int .u64 p3, .string oc] 41))).below hb2; have q3 := hM2.ov; have fz2 := hM2.fz; have HM2 : Hid _ := hM2; clear hM2)
                refine bodyPost_ret (results_none rfl _ _ _) rfl ?_
                rw [HMT.out]
                have eo : Blk.other ⟨ov, ⟨pv, pb, p0, p1, p2, p3⟩, oc⟩ ⟨bv, ⟨jv, jb, j0, j1, j2, j3⟩, bc⟩ = true := by simp only [Blk.other, e1, e2, e3]; rfl
                rw [eo, Bool.or_true]
                exact ⟨rfl, S, HM2.out.over true, Grow.refl _ _, (HF1.out.trans (Fr.of_below (S := S) (bnext (bnext hbw.out ((Below.refl _ _).alloc (Nat.le_refl _) (.cells #[.int .i64 ov, .int .i64 pv, .int .u64 pb, .int .u64 p0, .int .u64 p1, .int .u64 p2, .int .u64 p3, .string oc] 41))) hb2)) (fun _ h => .inl h)).trans (Fr.setCell w2 (S := S) HM2.out.sp _) (fun _ h => .inl h)⟩
            · go_wp2_with (go_at_call 27; refine (HNo _).mono ?_; rintro e w2 ⟨rfl, hb2⟩; have hA : ∀ j : Nat, w2.cell? ⟨wr.heap.size, j, none⟩ = (#[.int .i64 ov, .int .i64 pv, .int .u64 pb, .int .u64 p0, .int .u64 p1, .int .u64 p2, .int .u64 p3, .string oc] : Array Value)[j]? := fun j => cell_at (box_below (heap_alloc_new wr (.cells #[.int .i64 ov, .int .i64 pv, .int .u64 pb, .int .u64 p0, .int .u64 p1, .int .u64 p2, .int .u64 p3, .string oc] 41)) hb2) j; have hB : ∀ j : Nat, w2.cell? ⟨w.heap.size, j, none⟩ = (#[.int .i64 bv, .int .i64 jv, .int .u64 jb, .int .u64 j0, .int .u64 j1, .int .u64 j2, .int .u64 j3, .string bc] : Array Value)[j]? := fun j => cell_at (box_below (box_below (box_below HX1.out hbw.out) ((Below.refl _ _).alloc (Nat.le_refl _) (.cells #[.int .i64 ov, .int .i64 pv, .int .u64 pb, .int .u64 p0, .int .u64 p1, .int .u64 p2, .int .u64 p3, .string oc] 41))) hb2) j; have hM2 := ((HM1.out.below hbw.out).below ((Below.refl _ _).alloc (Nat.le_refl _) (.cells #[.int .i64 ov, .int .i64 pv, .int .u64 pb, .int .u64 p0, .int .u64 p1, .int .u64 p2, .int .u64 p3, .string oc] 41))).below hb2; have q3 := hM2.ov; have fz2 := hM2.fz; have HM2 : Hid _ := hM2; clear hM2)
              refine bodyPost_ret (results_none rfl _ _ _) rfl ?_
              rw [HMT.out]
              have eo : Blk.other ⟨ov, ⟨pv, pb, p0, p1, p2, p3⟩, oc⟩ ⟨bv, ⟨jv, jb, j0, j1, j2, j3⟩, bc⟩ = true := by simp only [Blk.other, e1, e2]; rfl
              rw [eo, Bool.or_true]
              exact ⟨rfl, S, HM2.out.over true, Grow.refl _ _, (HF1.out.trans (Fr.of_below (S := S) (bnext (bnext hbw.out ((Below.refl _ _).alloc (Nat.le_refl _) (.cells #[.int .i64 ov, .int .i64 pv, .int .u64 pb, .int .u64 p0, .int .u64 p1, .int .u64 p2, .int .u64 p3, .string oc] 41))) hb2)) (fun _ h => .inl h)).trans (Fr.setCell w2 (S := S) HM2.out.sp _) (fun _ h => .inl h)⟩
          · go_wp2_with (go_at_call 27; refine (HNo _).mono ?_; rintro e w2 ⟨rfl, hb2⟩; have hA : ∀ j : Nat, w2.cell? ⟨wr.heap.size, j, none⟩ = (#[.int .i64 ov, .int .i64 pv, .int .u64 pb, .int .u64 p0, .int .u64 p1, .int .u64 p2, .int .u64 p3, .string oc] : Array Value)[j]? := fun j => cell_at (box_below (heap_alloc_new wr (.cells #[.int .i64 ov, .int .i64 pv, .int .u64 pb, .int .u64 p0, .int .u64 p1, .int .u64 p2, .int .u64 p3, .string oc] 41)) hb2) j; have hB : ∀ j : Nat, w2.cell? ⟨w.heap.size, j, none⟩ = (#[.int .i64 bv, .int .i64 jv, .int .u64 jb, .int .u64 j0, .int .u64 j1, .int .u64 j2, .int .u64 j3, .string bc] : Array Value)[j]? := fun j => cell_at (box_below (box_below (box_below HX1.out hbw.out) ((Below.refl _ _).alloc (Nat.le_refl _) (.cells #[.int .i64 ov, .int .i64 pv, .int .u64 pb, .int .u64 p0, .int .u64 p1, .int .u64 p2, .int .u64 p3, .string oc] 41))) hb2) j; have hM2 := ((HM1.out.below hbw.out).below ((Below.refl _ _).alloc (Nat.le_refl _) (.cells #[.int .i64 ov, .int .i64 pv, .int .u64 pb, .int .u64 p0, .int .u64 p1, .int .u64 p2, .int .u64 p3, .string oc] 41))).below hb2; have q3 := hM2.ov; have fz2 := hM2.fz; have HM2 : Hid _ := hM2; clear hM2)
            refine bodyPost_ret (results_none rfl _ _ _) rfl ?_
            rw [HMT.out]
            have eo : Blk.other ⟨ov, ⟨pv, pb, p0, p1, p2, p3⟩, oc⟩ ⟨bv, ⟨jv, jb, j0, j1, j2, j3⟩, bc⟩ = true := by simp only [Blk.other, e1]; rfl
            rw [eo, Bool.or_true]
            exact ⟨rfl, S, HM2.out.over true, Grow.refl _ _, (HF1.out.trans (Fr.of_below (S := S) (bnext (bnext hbw.out ((Below.refl _ _).alloc (Nat.le_refl _) (.cells #[.int .i64 ov, .int .i64 pv, .int .u64 pb, .int .u64 p0, .int .u64 p1, .int .u64 p2, .int .u64 p3, .string oc] 41))) hb2)) (fun _ h => .inl h)).trans (Fr.setCell w2 (S := S) HM2.out.sp _) (fun _ h => .inl h)⟩
        · go_wp2_with (go_at_call 27; refine (HNo _).mono ?_; rintro e w2 ⟨rfl, hb2⟩)
          go_roundw
          case rel => exact ⟨k + 1, by omega, by go_num, bnext (bnext hbw.out ((Below.refl _ _).alloc (Nat.le_refl _) (.cells #[.int .i64 ov, .int .i64 pv, .int .u64 pb, .int .u64 p0, .int .u64 p1, .int .u64 p2, .int .u64 p3, .string oc] 41))) hb2, HNEXT.out hnn⟩
          case measure => simp [intOf]; omega
      · have hkl : k = L.blocks.length := by omega
        have HMT : Hid (L.meets ⟨bv, ⟨jv, jb, j0, j1, j2, j3⟩, bc⟩ = { L with over := L.over || nb == 0, blocks := L.blocks ++ [⟨bv, ⟨jv, jb, j0, j1, j2, j3⟩, bc⟩] }) := by
          show L.meets _ = _
          unfold Law.meets; rw [← HNB.out, firstOf_miss nb L.blocks (fun j hj => hnot.out j hj (by omega))]
        have HW := H1.out.below hbw.out
        have hbx := box_below HX1.out hbw.out
        have HFw : Fr S w wr := HF1.out.trans (Fr.of_below (S := S) hbw.out) (fun _ h => .inl h)
        have c2a : ∀ o, (wr.alloc o).cell? ⟨p, 2, none⟩ = some (.slice a L.blocks.length cap) := fun o => cell_at (HW.alloc o).box 2
        have fz := free_at HW.box
        have hl : (rowVar 41 ⟨w.heap.size, 0, none⟩).run Tryz.prog wr.drew = .ok (.agg #[.int .i64 bv, .int .i64 jv, .int .u64 jb, .int .u64 j0, .int .u64 j1, .int .u64 j2, .int .u64 j3, .string bc]) wr.drew := blk_whole wr.drew _ _ hbx rfl
        have hla : ∀ o, (rowVar 41 ⟨w.heap.size, 0, none⟩).run Tryz.prog (wr.alloc o).drew = .ok (.agg #[.int .i64 bv, .int .i64 jv, .int .u64 jb, .int .u64 j0, .int .u64 j1, .int .u64 j2, .int .u64 j3, .string bc]) (wr.alloc o).drew := fun o => blk_whole (wr.alloc o).drew _ _ (by show (wr.alloc o).heap[w.heap.size]? = _; rw [Below.heap_alloc _ _ _ (lt_at hbx)]; exact hbx) rfl
        have HR2 : Hid (Row wr S 41 8 (.slice a L.blocks.length cap) L.blocks.length (L.blocks.flatMap Blk.cells)) := HR.out.below hbw.out
        have HH : Hid (Bun wr p 34 S (lcells { L with over := L.over || nb == 0 } um ul (.slice a L.blocks.length cap) ut us uo un) [um, ul, (.slice a L.blocks.length cap), ut, us, uo, un] lE (lX { L with over := L.over || nb == 0 })) := HW
        have HFR : Hid (Fr S w wr) := HFw
        clear HW hbx HFw HR H1 HX1 HF1 hbw hnot HN
        go_wp2
        go_region_law (refine step_append_row rfl (.tmp 70) (.tmp 72) 28 rfl S 41 _ 8 72 Tryz.underlying28 info_block rfl (.slice a L.blocks.length cap) L.blocks.length (L.blocks.flatMap Blk.cells) (by simp [Act.eval]) ((HR2.out.alloc _).drew) ⟨wr.heap.size, 0, none⟩ 1 1 (Blk.cells ⟨bv, ⟨jv, jb, j0, j1, j2, j3⟩, bc⟩) (by simp [Act.eval]) rfl (new_cells _ _ _ rfl) (by simp [Blk.cells, Value.oneCell']) (by omega) (by unfold maxLen; omega) (by omega) ?_; intro v' w1 hr' hf; obtain ⟨a', cap', rfl⟩ := hr'.isSlice; have hb1 := ((HH.out.alloc _).drew).after 2 rfl hf; have d2' : w1.cell? ⟨p, 2, none⟩ = some (.slice a L.blocks.length cap) := cell_at hb1 2; have fz1 := free_at hb1; clear hb1; have HR' : Hid _ := hr'; have HF : Hid (Fr _ _ w1) := hf; clear hr' hf)
        all_goals (
          go_end0
          rw [HMT.out]
          refine ⟨rfl, _, ⟨um, ul, .slice a' (L.blocks.length + 1) cap', ut, us, uo, un, ?_⟩, grow_put HR'.out (by have := HFR.out.size; simp [World.drew]; omega) (fun k hk => (HR2.out.ownS hk).1), ?_⟩
          · exact (((HH.out.alloc _).drew).put 2 rfl rfl _ (L.blocks.length + 1, L.blocks.flatMap Blk.cells ++ Blk.cells ⟨bv, ⟨jv, jb, j0, j1, j2, j3⟩, bc⟩) HR'.out HF.out 2 rfl rfl (by simp [lX]))
          · exact ((HH.out.alloc _).drew).frPut ((HFR.out.trans (Fr.alloc S wr _) (fun _ hi => .inl hi)).trans (Fr.drew S _) (fun _ hi => .inl hi)) 2 rfl HF.out 2 _)
end Go.Proofs.YtkehpnobidendaaGreatDoor

namespace Go.Proofs.YtkehpnobidendaaGreatDoor
open Go.RowKit

/-- What append makes of a slice of our own: the row is longer, in its own block or in a new one; only its own block turns. -/
theorem run_append_two (P : Program) (w : World) (S : Nat → Prop) (t ty e : TypeId) (i : TypeInfo) (z : Value) (size bytes : Nat) (ht : P.underlying t = some (.slice e)) (hi : P.info? e = some i) (hz : i.zero = some z)
    (hsize : i.size = size) (hby : i.bytes = bytes) (hzs : z.cells.size = size)
    (v : Value) (n : Nat) (xs : List Value) (hown : Row w S e size v n xs)
    (a : Addr) (m c : Nat) (news : List Value) (hl : news.length = m * size) (hnews : ∀ j u, news[j]? = some u → w.cell? (a.add j) = some u) (h1 : ∀ u ∈ news, u.oneCell' = true)
    (hm0 : 0 < m) (h63 : n + m ≤ maxLen) (hbytes : (n + m) * bytes ≤ 140737488355328) :
    ∃ v' w', (Builtin.append_ #[t, t] ty #[v, .slice (some a) m c]).run P w = .ok v' w' ∧ Row w' (fun k => v.ownBlock = some k ∨ k = w.heap.size) e size v' (n + m) (xs ++ news) ∧ Fr (fun k => v.ownBlock = some k) w w' ∧ ((∃ a cap, v = .slice a n cap ∧ v' = .slice a (n + m) cap) ∨ (Below w.heap.size w w' ∧ v'.ownBlock = some w.heap.size)) := by
  subst hsize
  subst hby
  have hsmall : n + m ≤ 9223372036854775807 := by simp only [maxLen] at h63; omega
  have hlen : (xs ++ news).length = (n + m) * i.size := by rw [List.length_append, hown.1, hl, Nat.add_mul]
  have grown : ∀ (old : Nat), old < n + m → ∀ (row : Option Nat),
      Row (w.drew.alloc (.cells (xs.toArray ++ news.toArray ++ Builtin.zeroCells z.cells (grownCap w (n + m) old e - (n + m))) e)) (fun k => row = some k ∨ k = w.heap.size) e i.size
        (.slice (some ⟨w.heap.size, 0, none⟩) (n + m) (grownCap w (n + m) old e)) (n + m) (xs ++ news) ∧
      Fr (fun k => row = some k) w (w.drew.alloc (.cells (xs.toArray ++ news.toArray ++ Builtin.zeroCells z.cells (grownCap w (n + m) old e - (n + m))) e)) ∧ Below w.heap.size w (w.drew.alloc (.cells (xs.toArray ++ news.toArray ++ Builtin.zeroCells z.cells (grownCap w (n + m) old e - (n + m))) e)) := by
    intro old ho row
    have hge := grownCap_ge w (n + m) old e
    have hcm : grownCap w (n + m) old e ≤ maxLen := grownCap_le_maxLen w (n + m) old e h63
    refine ⟨⟨hlen, .inr ⟨w.heap.size, 0, _, _, rfl, .inr rfl, heap_alloc_new w.drew _, hge, hcm, ?_, ?_⟩⟩, ⟨rfl, rfl, rfl, by simp, fun k hk _ => Below.heap_alloc w.drew _ k hk⟩, ⟨rfl, rfl, rfl, by simp, fun k hk => Below.heap_alloc w.drew _ k hk⟩⟩
    · simp only [Array.size_append, List.size_toArray, size_zeroCells, hzs, hown.1, hl, ← Nat.add_mul, Nat.zero_add]
      exact Nat.mul_le_mul_right _ (by omega)
    · simp only [Array.toList_append, List.append_assoc, List.drop_zero]
      rw [← List.append_assoc, ← hlen]
      exact List.take_left
  rcases hown.2 with ⟨rfl, rfl⟩ | ⟨g, off, cap, cur, rfl, hS, hg, hnc, hcm, hcs, htake⟩
  · have hx : xs = [] := List.eq_nil_of_length_eq_zero (by simpa using hown.1)
    subst hx
    have hr := run_append_nil (P := P) w t ty e i z ht hi hz a m c news hl hnews (by omega) (by omega) (by have hb := hbytes; simp only [Nat.zero_add] at hb; omega)
    have hgr := grown 0 (by omega) (Value.ownBlock (.slice none 0 0))
    simp only [Nat.zero_add, List.nil_append, Array.empty_append] at hgr ⊢
    exact ⟨_, _, hr, hgr.1, hgr.2.1, .inr ⟨hgr.2.2, rfl⟩⟩
  · by_cases hroom : n + m ≤ cap
    · have hmul : (n + m) * i.size ≤ cap * i.size := Nat.mul_le_mul_right _ hroom
      have hfit : off + n * i.size + news.length ≤ cur.size := by rw [hl]; rw [Nat.add_mul] at hmul; omega
      have hr := run_room P w t ty e i ht hi g off n cap cur hg a m c news hl hnews h1 hroom hfit
      refine ⟨_, _, hr, ⟨hlen, .inr ⟨g, off, cap, _, rfl, .inl rfl, setRow_heap w g cur _ e _ hg, hroom, hcm, ?_, ?_⟩⟩, ⟨rfl, rfl, rfl, by simp, fun k _ hk => setRow_other w g k _ (fun e => hk (by simp [Value.ownBlock, e]))⟩, .inl ⟨_, _, rfl, rfl⟩⟩
      · simp only [List.size_toArray, List.length_append, List.length_take, List.length_drop, Array.length_toList]
        omega
      · simp only
        rw [List.append_assoc, List.drop_append_of_le_length (by simp; omega)]
        have h2 : (cur.toList.take (off + n * i.size)).drop off = xs := by
          rw [List.drop_take, ← htake]; congr 1; omega
        rw [h2, ← List.append_assoc, ← hlen]
        exact List.take_left
    · have holds : ∀ j u, xs[j]? = some u → w.cell? ((⟨g, off, none⟩ : Addr).add j) = some u := fun j u hj => by
        rw [Addr.add_lit, hown.cellAt j (by rw [← hown.1]; exact (List.getElem?_eq_some_iff.1 hj).1)]; exact hj
      have hr := run_append_grow (P := P) w t ty e i z ht hi hz ⟨g, off, none⟩ n cap xs hown.1 holds a m c news hl hnews (by omega) (by omega) (growslice_fits (by omega) hbytes)
      have hgr := grown cap (by omega) (Value.ownBlock (.slice (some ⟨g, off, none⟩) n cap))
      exact ⟨_, _, hr, hgr.1, hgr.2.1, .inr ⟨hgr.2.2, rfl⟩⟩

/-- The same, at the operation. -/
theorem wpList_append_two {P : Program} {w : World} {ops : Array Oper} {rest : List Oper} {o : Oper} {a : Act} {Q : Exit → Act → World → Prop} (hgd : o.guard = none) (s x : Operand) (t : TypeId)
    (ho : o.op = .call { callee := .builtin .append, args := #[s, x], argTypes := #[t, t] })
    (S : Nat → Prop) (e : TypeId) (z : Value) (size bytes : Nat) (ht : P.underlying t = some (.slice e)) (hi : (P.info? e).map (fun i => (i.zero, i.size, i.bytes)) = some (some z, size, bytes)) (hzs : z.cells.size = size)
    (v : Value) (n : Nat) (xs : List Value) (hs : a.eval s = v) (hown : Row w S e size v n xs)
    (ad : Addr) (m c : Nat) (news : List Value) (hx : a.eval x = .slice (some ad) m c) (hl : news.length = m * size) (hnews : ∀ j u, news[j]? = some u → w.cell? (ad.add j) = some u) (h1 : ∀ u ∈ news, u.oneCell' = true)
    (hm0 : 0 < m) (h63 : n + m ≤ maxLen) (hbytes : (n + m) * bytes ≤ 140737488355328)
    (h : ∀ v' w', Row w' (fun k => v.ownBlock = some k ∨ k = w.heap.size) e size v' (n + m) (xs ++ news) → Fr (fun k => v.ownBlock = some k) w w' → ((∃ a cap, v = .slice a n cap ∧ v' = .slice a (n + m) cap) ∨ (Below w.heap.size w w' ∧ v'.ownBlock = some w.heap.size)) → wpList P ops Q rest (a.put o.dst v') w') : wpList P ops Q (o :: rest) a w := by
  refine wpList_plain hgd fun K hK => ?_
  obtain ⟨i0, hi0, hz0, hz1, hz2⟩ := info_parts hi
  obtain ⟨v', w', hr, h2, h3, h4⟩ := run_append_two P w S t o.type e i0 z size bytes ht hi0 hz0 hz1 hz2 hzs v n xs hown ad m c news hl hnews h1 hm0 h63 hbytes
  unfold Oper.wp execOp
  simp only [ho, resolve, invoke, builtin, Sem.run_bind, Sem.run_pure, Result.andThen_ok, List.map_toArray, List.map_cons, List.map_nil, hs, hx, hr]
  exact hK _ _ (h v' w' h2 h3 h4)
/-- n times the same cells. -/
def reps (n : Nat) (C : List Value) : List Value := (List.replicate n C).flatten
theorem reps_len (n : Nat) (C : List Value) : (reps n C).length = n * C.length := by simp [reps]
theorem reps_succ (n : Nat) (C : List Value) : reps (n + 1) C = reps n C ++ C := by
  unfold reps; rw [List.replicate_succ', List.flatten_append]; simp
theorem reps_take (C : List Value) : ∀ (m j : Nat), j ≤ m → (reps m C).take (j * C.length) = reps j C := by
  intro m j h
  have e : m = j + (m - j) := by omega
  rw [e]
  unfold reps
  rw [← List.replicate_append_replicate, List.flatten_append]
  have : (List.replicate j C).flatten.length = j * C.length := by simp
  rw [← this, List.take_left]
/-- A row hangs on its own block alone. -/
theorem Row.move {w w' : World} {S S' : Nat → Prop} {e : TypeId} {size : Nat} {v : Value} {n : Nat} {xs : List Value} (h : Row w S e size v n xs) (hb : ∀ k, v.ownBlock = some k → w'.heap[k]? = w.heap[k]? ∧ S' k) : Row w' S' e size v n xs := by
  refine ⟨h.1, ?_⟩
  rcases h.2 with hn | ⟨g, off, cap, cur, rfl, hS, hg, rest⟩
  · exact .inl hn
  · exact .inr ⟨g, off, cap, cur, rfl, (hb g rfl).2, (hb g rfl).1.trans hg, rest⟩
/-- A shorter slice at the same place. -/
theorem Row.trunc {w : World} {S : Nat → Prop} {e : TypeId} {size : Nat} {a : Option Addr} {n cap : Nat} {xs : List Value} (h : Row w S e size (.slice a n cap) n xs) (j : Nat) (hj : j ≤ n) (ha : a ≠ none) : Row w S e size (.slice a j cap) j (xs.take (j * size)) := by
  rcases h.val with ⟨h0, _⟩ | ⟨g, off, cap', cur, hv, hS, hg, hnc, hm, hs, hx⟩
  · cases h0; exact absurd rfl ha
  · cases hv
    have hle : j * size ≤ n * size := Nat.mul_le_mul_right _ hj
    refine ⟨by rw [List.length_take, h.len]; omega, .inr ⟨g, off, cap, cur, rfl, hS, hg, by omega, hm, hs, ?_⟩⟩
    rw [← hx, List.take_take]; congr 1; omega
/-- A slice that was kept (r) of a list that is written on (cur): all of it is the mark; where it lies in cur's block it is a beginning of cur. -/
def Marked (w : World) (T : Nat → Prop) (e : TypeId) (C : List Value) (r cur : Value) : Prop :=
  ∃ j, Row w T e C.length r j (reps j C) ∧ ∀ k, r.ownBlock = some k → cur.ownBlock = some k → ∃ a cap m, r = .slice a j cap ∧ cur = .slice a m cap ∧ j ≤ m
theorem Marked.self {w : World} {T : Nat → Prop} {e : TypeId} {C : List Value} {cur : Value} {n : Nat} (h : Row w T e C.length cur n (reps n C)) : Marked w T e C cur cur := by
  obtain ⟨a, cap, rfl⟩ := h.isSlice
  exact ⟨n, h, fun k _ _ => ⟨a, cap, n, rfl, rfl, Nat.le_refl _⟩⟩
theorem Marked.same {w w' : World} {T T' : Nat → Prop} {e : TypeId} {C : List Value} {r cur : Value} (h : Marked w T e C r cur) (hb : ∀ k, T k → k < w.heap.size → w'.heap[k]? = w.heap[k]? ∧ T' k) : Marked w' T' e C r cur := by
  obtain ⟨j, h1, h2⟩ := h
  exact ⟨j, h1.same hb, h2⟩
/-- The owner appends the mark once more. -/
theorem Marked.step {w w' : World} {T : Nat → Prop} {e : TypeId} {C : List Value} {r cur cur' : Value} {n : Nat} (h : Marked w T e C r cur) (hc : Row w T e C.length cur n (reps n C))
    (hr : Row w' (fun k => cur.ownBlock = some k ∨ k = w.heap.size) e C.length cur' (n + 1) (reps n C ++ C)) (hf : Fr (fun k => cur.ownBlock = some k) w w') (h2 : (∃ a cap, cur = .slice a n cap ∧ cur' = .slice a (n + 1) cap) ∨ (Below w.heap.size w w' ∧ cur'.ownBlock = some w.heap.size)) :
    Marked w' T e C r cur' := by
  obtain ⟨j, h1, hk⟩ := h
  rcases h2 with ⟨a, cap, rfl, rfl⟩ | ⟨hb, ho⟩
  · by_cases hsame : ∃ k, r.ownBlock = some k ∧ (Value.slice a n cap).ownBlock = some k
    · obtain ⟨k, hk1, hk2⟩ := hsame
      obtain ⟨a', cap', m, rfl, hcur, hjm⟩ := hk k hk1 hk2
      cases hcur
      have ha : a ≠ none := fun e => by rw [e] at hk1; cases hk1
      refine ⟨j, ?_, fun k' _ _ => ⟨a, cap, n + 1, rfl, rfl, by omega⟩⟩
      have ht := hr.trunc j (by omega) ha
      rw [← reps_succ, reps_take C (n + 1) j (by omega)] at ht
      exact ht.reown (fun k' hk' => (h1.ownS hk').1)
    · refine ⟨j, h1.move (fun k hk' => ⟨hf.block k (h1.ownS hk').2 (fun h => hsame ⟨k, hk', h⟩), (h1.ownS hk').1⟩), fun k hk1 hk2 => absurd ⟨k, hk1, by cases a <;> exact hk2⟩ hsame⟩
  · refine ⟨j, h1.move (fun k hk' => ⟨hb.block k (h1.ownS hk').2, (h1.ownS hk').1⟩), fun k hk1 hk2 => ?_⟩
    rw [ho] at hk2
    cases hk2
    have := (h1.ownS hk1).2
    omega
theorem Row.store1 {w : World} {R : Nat → Prop} {e : TypeId} {g off n cap : Nat} {xs : List Value} (h : Row w R e 1 (.slice (some ⟨g, off, none⟩) n cap) n xs) (k : Nat) (u : Value) : Row (w.setCell ⟨g, off + k, none⟩ u) R e 1 (.slice (some ⟨g, off, none⟩) n cap) n (xs.set k u) := by
  have hl := h.len
  rcases h.val with ⟨h0, _⟩ | ⟨g', off', cap', cur, hv, hS, hg, hnc, hm, hs, hx⟩
  · cases h0
  · cases hv
    refine ⟨by simpa using hl, .inr ⟨g, off, cap, _, rfl, hS, heap_store hg u, hnc, hm, by simpa using hs, ?_⟩⟩
    rw [← hx, Array.toList_setIfInBounds, List.drop_set, if_neg (by omega), List.take_set]
    congr 1; omega
end Go.Proofs.YtkehpnobidendaaGreatDoor

namespace Go.Proofs.YtkehpnobidendaaGreatDoor
open Go.RowKit

/-- The mark's next letter. -/
def ltr16 (m : Nat) : UInt8 := UInt8.ofNat (97 + m % 16)
theorem ltr16_toNat (m : Nat) : ((ltr16 m).toNat : Int) = 97 + (m : Int) % 16 := by
  have h : 97 + m % 16 < 256 := by omega
  simp only [ltr16, UInt8.toNat_ofNat']
  omega
theorem conv16 (W : World) (m : Nat) : (convert 108 9 (.slice (some ⟨W.heap.size, 0, none⟩) 1 1)).run Tryz.prog (W.alloc (.cells #[.int .u8 (97 + (m : Int) % 16)] 5)) = .ok (.string ⟨#[ltr16 m]⟩) (W.alloc (.cells #[.int .u8 (97 + (m : Int) % 16)] 5)) := by
  have h := run_convert_bytes_back (P := Tryz.prog) (W.alloc (.cells #[.int .u8 (97 + (m : Int) % 16)] 5)) 108 9 5 ⟨W.heap.size, 0, none⟩ 1 [ltr16 m] Tryz.underlying108 Tryz.underlying5 Tryz.underlying9 (fun j hj => by
    have hj0 : j = 0 := by simpa using hj
    subst hj0
    rw [Lib.add_plain, World.cell?_alloc_new]
    simp [ltr16_toNat])
  exact h
theorem LMem.cnt {w : World} {p : Nat} {S : Nat → Prop} {L : Law} (h : LMem w p S L) : w.cell? ⟨p, 8, none⟩ = some (.int .i64 L.count) := by
  obtain ⟨vm, vl, vb, vt, vs, vo, vn, h⟩ := h
  exact cell_at h.box 8
theorem LMem.counts {w : World} {p : Nat} {S : Nat → Prop} {L : Law} (h : LMem w p S L) (n : Int) : LMem (w.setCell ⟨p, 8, none⟩ (.int .i64 n)) p S { L with count := n } := by
  obtain ⟨vm, vl, vb, vt, vs, vo, vn, h⟩ := h
  exact ⟨vm, vl, vb, vt, vs, vo, vn, h.store 8 _ rfl⟩

/-- So many slices are kept when k marks have been put behind the list. -/
def kept (k : Nat) : Nat := if k ≤ 3 then k else if k ≤ 64 then 3 else 4
/-- Slices are kept, with their mark. -/
def Law.addT (L : Law) (rs : List Value) (x : ByteArray) : Law := { L with texts := L.texts ++ rs, tm := L.tm ++ List.replicate rs.length x }
/-- What holds while a list of texts is written over. -/
structure SInv (w wr : World) (p : Nat) (S : Nat → Prop) (v0 : Value) (L1 : Law) (x : ByteArray) (n c k : Nat) (cur : Value) : Prop where
  ex : ∃ S' T rs, LMem wr p S' (L1.addT rs x) ∧ rs.length = c ∧ Grow S w S' ∧ Fr (fun j => S j ∨ v0.ownBlock = some j) w wr ∧ Row wr T 9 1 cur (n + k) (reps (n + k) [.string x]) ∧ (∀ r ∈ rs, Marked wr T 9 [.string x] r cur) ∧ (∀ j, T j → (v0.ownBlock = some j ∨ w.heap.size ≤ j) ∧ ¬ S' j ∧ j < wr.heap.size)
theorem kept_same (k : Nat) (h : 3 ≤ k) (h1 : k < 64) : kept (k + 1) = kept k := by unfold kept; (repeat' split) <;> omega
theorem kept_low (k : Nat) (h : k < 3) : kept (k + 1) = kept k + 1 := by unfold kept; (repeat' split) <;> omega
theorem kept_le (k : Nat) : kept k ≤ 4 := by unfold kept; split <;> (try split) <;> omega
theorem one_cellS {w : World} {p : Addr} {v x : Value} {t : TypeId} : ∀ (j : Nat) u, [x][j]? = some u → ((w.setCell p v).alloc (.cells #[x] t)).cell? ((⟨w.heap.size, 0, none⟩ : Addr).add j) = some u := by
  have h : (w.setCell p v).heap.size = w.heap.size := World.size_setCell _ _ _
  rw [← h]
  exact one_cell
theorem SInv.row {w wr : World} {p : Nat} {S : Nat → Prop} {v0 : Value} {L1 : Law} {x : ByteArray} {n c k : Nat} {cur : Value} (h : SInv w wr p S v0 L1 x n c k cur) : ∃ T, Row wr T 9 1 cur (n + k) (reps (n + k) [.string x]) := by
  obtain ⟨_, T, _, _, _, _, _, hrow, _⟩ := h
  exact ⟨T, hrow⟩
theorem addT_nil (L : Law) (x : ByteArray) : L.addT [] x = L := by simp [Law.addT]
theorem SInv.start {w wr : World} {p : Nat} {S R : Nat → Prop} {v : Value} {L1 : Law} {x : ByteArray} {n : Nat} (hL : LMem wr p S L1) (hV : Row wr R 9 1 v n (reps n [.string x])) (hR : ∀ k, R k → ¬ S k) (hF : Fr (fun j => S j ∨ v.ownBlock = some j) w wr) : SInv w wr p S v L1 x n 0 0 v := by
  refine ⟨S, fun i => v.ownBlock = some i, [], by rw [addT_nil]; exact hL, rfl, Grow.refl _ _, hF, hV.reown (fun i hi => hi), (fun r hr => by cases hr), fun i hi => ⟨.inl hi, fun hS => hR i (hV.ownS hi).1 hS, (hV.ownS hi).2⟩⟩
/-- The owner appends once more. -/
theorem SInv.more {w wr w1 : World} {p : Nat} {S : Nat → Prop} {v0 : Value} {L1 : Law} {x : ByteArray} {n c k : Nat} {cur cur' : Value} {o : Obj} (h : SInv w wr p S v0 L1 x n c k cur)
    (hr : Row w1 (fun j => cur.ownBlock = some j ∨ j = (wr.alloc o).heap.size) 9 1 cur' (n + k + 1) (reps (n + k) [.string x] ++ [.string x])) (hf : Fr (fun j => cur.ownBlock = some j) (wr.alloc o) w1) (h2 : (∃ a cap, cur = .slice a (n + k) cap ∧ cur' = .slice a (n + k + 1) cap) ∨ (Below (wr.alloc o).heap.size (wr.alloc o) w1 ∧ cur'.ownBlock = some (wr.alloc o).heap.size)) : SInv w w1 p S v0 L1 x n c (k + 1) cur' := by
  obtain ⟨S', T, rs, hL, hc, hg, hF, hrow, hmk, hT⟩ := h
  have hb : Below wr.heap.size wr (wr.alloc o) := (Below.refl _ _).alloc (Nat.le_refl _) o
  have hL' := hL.below hb
  have hrow' := hrow.below hb
  have hsz : (wr.alloc o).heap.size = wr.heap.size + 1 := by simp
  have hw := hF.size
  refine ⟨S', fun j => T j ∨ cur'.ownBlock = some j, rs, hL'.fr hf (fun j hj hk => (hT j (hrow.ownS hk).1).2.1 hj), hc, hg, ?_, ?_, fun r hr' => ?_, fun j hj => ?_⟩
  · exact (hF.trans (Fr.of_below (S := fun j => S j ∨ v0.ownBlock = some j) hb) (fun _ h => .inl h)).trans hf (fun j hj => by
      rcases (hT j (hrow.ownS hj).1).1 with h1 | h1
      · exact .inl (.inr h1)
      · exact .inr h1)
  · rw [← reps_succ] at hr
    exact hr.reown (fun j hj => .inr hj)
  · have h1 : Marked (wr.alloc o) T 9 [.string x] r cur := (hmk r hr').same (fun j hj hl => ⟨hb.block j hl, hj⟩)
    exact (h1.step hrow' hr hf h2).same (fun j hj _ => ⟨rfl, .inl hj⟩)
  · rcases hj with hj | hj
    · exact ⟨(hT j hj).1, (hT j hj).2.1, Nat.lt_of_lt_of_le (hT j hj).2.2 (Nat.le_trans hb.size hf.size)⟩
    · have h3 := hr.ownS hj
      rcases h3.1 with h4 | h4
      · have h5 := hT j (hrow.ownS h4).1
        exact ⟨h5.1, h5.2.1, h3.2⟩
      · exact ⟨.inr (by omega), fun hS => by have := hL.own j hS; omega, h3.2⟩
/-- A slice is kept. -/
theorem SInv.keep {w wr w1 w2 : World} {p : Nat} {S : Nat → Prop} {v0 : Value} {L1 : Law} {x : ByteArray} {n c k : Nat} {cur : Value} {o1 o2 : Obj} {S' T : Nat → Prop} {rs : List Value} {um ul ub ut us uo un ut' us' : Value} {tl ml : Nat} (htl : tl = (L1.texts ++ rs).length) (hml : ml = (L1.tm ++ List.replicate rs.length x).length)
    (hB : Bun wr p 34 S' (lcells (L1.addT rs x) um ul ub ut us uo un) [um, ul, ub, ut, us, uo, un] lE (lX (L1.addT rs x))) (hc : rs.length = c) (hg : Grow S w S') (hF : Fr (fun j => S j ∨ v0.ownBlock = some j) w wr) (hrow : Row wr T 9 1 cur (n + k) (reps (n + k) [.string x])) (hmk : ∀ r ∈ rs, Marked wr T 9 [.string x] r cur) (hT : ∀ j, T j → (v0.ownBlock = some j ∨ w.heap.size ≤ j) ∧ ¬ S' j ∧ j < wr.heap.size)
    (r1 : Row w1 (fun j => ut.ownBlock = some j ∨ j = (wr.alloc o1).heap.size) 30 1 ut' (tl + 1) ((L1.texts ++ rs).flatMap vcells ++ [cur])) (f1 : Fr (fun j => ut.ownBlock = some j) (wr.alloc o1) w1)
    (r2 : Row w2 (fun j => us.ownBlock = some j ∨ j = ((w1.setCell ⟨p, 4, none⟩ ut').alloc o2).heap.size) 9 1 us' (ml + 1) ((L1.tm ++ List.replicate rs.length x).flatMap scells ++ [.string x])) (f2 : Fr (fun j => us.ownBlock = some j) ((w1.setCell ⟨p, 4, none⟩ ut').alloc o2) w2) :
    SInv w (w2.setCell ⟨p, 5, none⟩ us') p S v0 L1 x n (c + 1) k cur := by
  subst htl hml
  have hb : Below wr.heap.size wr (wr.alloc o1) := (Below.refl _ _).alloc (Nat.le_refl _) o1
  have h1 := (hB.alloc o1).put (C' := lcells (L1.addT rs x) um ul ub ut' us uo un) (V' := [um, ul, ub, ut', us, uo, un]) 3 rfl rfl ut' ((L1.texts ++ rs).length + 1, (L1.texts ++ rs).flatMap vcells ++ [cur]) r1 f1 4 rfl rfl rfl
  have h2 := (h1.alloc o2).put (C' := lcells (L1.addT (rs ++ [cur]) x) um ul ub ut' us' uo un) (V' := [um, ul, ub, ut', us', uo, un]) (X' := lX (L1.addT (rs ++ [cur]) x)) 4 rfl rfl us' ((L1.tm ++ List.replicate rs.length x).length + 1, (L1.tm ++ List.replicate rs.length x).flatMap scells ++ [.string x]) r2 f2 5 rfl rfl (by
    simp [lX, Law.addT, vcells, scells, List.replicate_succ']; omega)
  have f1' := (hB.alloc o1).frPut (S := S') (w := wr) (Fr.alloc _ _ _) 3 rfl f1 4 ut'
  have e1 : (wr.alloc o1).heap.size = wr.heap.size + 1 := by simp
  have e2 : ((w1.setCell ⟨p, 4, none⟩ ut').alloc o2).heap.size = w1.heap.size + 1 := by simp
  have hw1 := f1.size
  have hwr := hF.size
  have f2' : Fr (fun j => S' j ∨ ut'.ownBlock = some j) (w1.setCell ⟨p, 4, none⟩ ut') (w2.setCell ⟨p, 5, none⟩ us') := (h1.alloc o2).frPut (Fr.alloc _ _ _) 4 rfl f2 5 us'
  have g1 : Grow S' wr (fun j => S' j ∨ ut'.ownBlock = some j) := grow_put r1 (by omega) (fun j hj => (hB.own (i := 3) rfl hj).1)
  have f12 : Fr S' wr (w2.setCell ⟨p, 5, none⟩ us') := f1'.grow g1 f2'
  have g2 : Grow S' wr (fun j => (S' j ∨ ut'.ownBlock = some j) ∨ us'.ownBlock = some j) := g1.trans f1'.size (grow_put r2 (by simp) (fun j hj => (h1.own (i := 4) rfl hj).1))
  refine ⟨_, T, rs ++ [cur], ⟨um, ul, ub, ut', us', uo, un, h2⟩, by simp [hc], hg.trans hwr g2, ?_, ?_, fun r hr => ?_, fun j hj => ⟨(hT j hj).1, fun h => ?_, Nat.lt_of_lt_of_le (hT j hj).2.2 f12.size⟩⟩
  · exact hF.trans f12 (fun j hj => (hg j hj).imp .inl id)
  · exact hrow.same (fun j hj hl => ⟨f12.block j hl (hT j hj).2.1, hj⟩)
  · have hM : Marked wr T 9 [.string x] r cur := by
      rcases List.mem_append.1 hr with h | h
      · exact hmk r h
      · simp at h; subst h; exact Marked.self hrow
    exact hM.same (fun j hj hl => ⟨f12.block j hl (hT j hj).2.1, hj⟩)
  · rcases g2 j h with h1 | h1
    · exact (hT j hj).2.1 h1
    · have := (hT j hj).2.2; omega

end Go.Proofs.YtkehpnobidendaaGreatDoor

namespace Go.Proofs.YtkehpnobidendaaGreatDoor
open Go.RowKit

theorem info_texts : (Tryz.prog.info? 30).map (fun i => (i.zero, i.size, i.bytes)) = some (some (.slice none 0 0), 1, 24) := by kernel_rfl
theorem setlist {n : Nat} {xs : List Value} (k : Nat) (u : Value) (hk : k < n) (hl : xs.length = n) : (reps k [u] ++ xs.drop k).set k u = reps (k + 1) [u] ++ xs.drop (k + 1) := by
  have e : (reps k [u]).length = k := by simp [reps_len]
  rw [List.set_append_right _ _ (by omega), e, Nat.sub_self, reps_succ, List.append_assoc]
  congr 1
  rw [List.drop_eq_getElem_cons (by omega)]
  rfl
theorem fr_or {S : Nat → Prop} {w w1 : World} {v : Value} (h : Fr S w w1) : Fr (fun j => S j ∨ v.ownBlock = some j) w w1 := h.mono (fun _ h => .inl h)

set_option maxRecDepth 100000 in
set_option maxHeartbeats 4000000 in
theorem lstrings (w : World) (p : Nat) (S R : Nat → Prop) (L : Law) (h : LMem w p S L) (v : Value) (n : Nat) (xs : List Value) (hv : Row w R 9 1 v n xs) (hR : ∀ k, R k → ¬ S k) (hn : n ≤ 1700000000000) (hc0 : 0 ≤ L.count) (hc1 : L.count ≤ 10000000000000) (ht : L.texts.length ≤ 5800000000000) (hm : L.tm.length ≤ 5800000000000) :
    Calls Tryz.prog 35 #[.pointer (some ⟨p, 0, none⟩), v] w fun e w' => e = .returned (.tuple #[]) ∧ ∃ x cur, SInv w w' p S v { L with count := L.count + 1 } x n 4 65 cur := by
  have hcv := conv16
  have c8 := h.cnt
  have fz := h.fz
  have hp := h.lt
  have HM : Hid (LMem w p S L) := h
  have HV : Hid (Row w R 9 1 v n xs) := hv
  have HRS : Hid (∀ k, R k → ¬ S k) := hR
  obtain ⟨a, cap, rfl⟩ := hv.isSlice
  obtain ⟨cn, hcn⟩ : ∃ c : Nat, L.count + 1 = (c : Int) := ⟨(L.count + 1).toNat, by omega⟩
  have hcnb : cn ≤ 10000000000001 := by omega
  clear h hv hR
  go_enter Tryz.func35, Tryz.ntmps35
  go_wp2
  have HM1 : Hid (LMem (w.setCell ⟨p, 8, none⟩ (.int .i64 cn)) p S { L with count := L.count + 1 }) := by rw [hcn]; exact HM.out.counts cn
  have HV1 : Hid (Row (w.setCell ⟨p, 8, none⟩ (.int .i64 cn)) R 9 1 (.slice a n cap) n xs) := HV.out.move (fun k hk => ⟨heap_store_ne _ (fun e => HRS.out k (HV.out.ownS hk).1 (e ▸ HM.out.sp)), (HV.out.ownS hk).1⟩)
  have HF1 : Hid (Fr S w (w.setCell ⟨p, 8, none⟩ (.int .i64 cn))) := Fr.setCell w HM.out.sp _
  clear c8 fz
  generalize w.setCell ⟨p, 8, none⟩ (.int .i64 cn) = W1 at *
  go_loopw [4, 5, 6] (fun s q i wr => ∃ (k m : Nat) (x : ByteArray), k ≤ 7 ∧ i = .int .i64 k ∧ s = .string x ∧ x.size ≤ 1 + k ∧ q = .int .i64 m ∧ m ≤ 10000000000001 ∧ Hid (Below W1.heap.size W1 wr)) (fun _ _ i _ => 7 - (intOf i).toNat)
  case atStart => exact ⟨0, cn, ⟨#[35]⟩, by omega, rfl, rfl, by decide, rfl, hcnb, Below.refl _ _⟩
  case round =>
    obtain ⟨k, m, x, hk, rfl, rfl, hx, rfl, hm0, hbw⟩ := hrel
    by_cases hk7 : k < 7
    · have hxs : x.size + 1 ≤ 9 := by omega
      go_wp2
      go_roundw
      case rel => exact ⟨k + 1, m / 16, x ++ ⟨#[ltr16 m]⟩, by omega, by go_num, rfl, by rw [ByteArray.size_append]; have : (⟨#[ltr16 m]⟩ : ByteArray).size = 1 := rfl; omega, by go_num, by omega, bnext hbw.out ((Below.refl _ _).alloc (Nat.le_refl _) _)⟩
      case measure => simp [intOf]; omega
    · have hM2 := HM1.out.below hbw.out
      have hV2 := HV1.out.below hbw.out
      have hF2 : Fr S w wr := HF1.out.trans (Fr.of_below (S := S) hbw.out) (fun _ h => .inl h)
      have HM2 : Hid (LMem wr p S { L with count := L.count + 1 }) := hM2
      have HV2 : Hid (Row wr R 9 1 (.slice a n cap) n xs) := hV2
      have HF2 : Hid (Fr S w wr) := hF2
      clear hM2 hV2 hF2 HM1 HV1 HF1 hbw hcv
      go_wp2
      go_loopw [7] (fun i wr => ∃ j : Nat, j ≤ n ∧ i = .int .i64 j ∧ Hid (LMem wr p S { L with count := L.count + 1 }) ∧ Hid (Row wr R 9 1 (.slice a n cap) n (reps j [.string x] ++ xs.drop j)) ∧ Hid (Fr (fun j => S j ∨ (Value.slice a n cap).ownBlock = some j) w wr)) (fun i _ => n - (intOf i).toNat)
      case atStart => exact ⟨0, by omega, rfl, HM2, HV2, fr_or HF2.out⟩
      case round =>
        clear HM2 HV2 HF2
        obtain ⟨j, hj, rfl, hL, hV, hF⟩ := hrel
        by_cases hjn : j < n
        · obtain ⟨g, off, rfl, hRg, hg, hcap⟩ := hV.out.place (by omega)
          have hlen : xs.length = n := by have := HV.out.len; omega
          obtain ⟨z, hz⟩ : ∃ z, wr.cell? ⟨g, off + j, none⟩ = some z := by
            rw [hV.out.cellAt j (by omega)]
            exact ⟨_, List.getElem?_eq_getElem (by rw [hV.out.len]; omega)⟩
          have fz := hV.out.freeAt (off + j)
          go_wp2
          go_roundw
          case rel =>
            refine ⟨j + 1, by omega, by go_num, ?_, ?_, ?_⟩
            · exact hL.out.fr (Fr.setCell wr (S := fun k => k = g) (a := ⟨g, off + j, none⟩) rfl _) (fun k hk e => HRS.out k (e ▸ hRg) hk)
            · have := hV.out.store1 j (.string x)
              rw [setlist j (.string x) hjn hlen] at this
              exact this
            · exact hF.out.trans (Fr.setCell wr (S := fun k => k = g) (a := ⟨g, off + j, none⟩) rfl _) (fun k hk => .inl (.inr (by rw [hk]; rfl)))
          case measure => simp [intOf]; omega
        · have hjn' : j = n := by omega
          subst hjn'
          have hlen : xs.length = j := by have := HV.out.len; omega
          have hV' := hV.out
          rw [List.drop_of_length_le (by omega), List.append_nil] at hV'
          have HI0 : Hid (SInv w wr p S (.slice a j cap) { L with count := L.count + 1 } x j 0 0 (.slice a j cap)) := SInv.start hL.out hV' HRS.out hF.out
          clear hV' hL hV hF hjn hj HV hlen
          go_wp2
          go_loopw [1, 8] (fun cur i wr => ∃ k : Nat, k ≤ 65 ∧ i = .int .i64 k ∧ Hid (SInv w wr p S (.slice a j cap) { L with count := L.count + 1 } x j (kept k) k cur)) (fun _ i _ => 65 - (intOf i).toNat)
          case atStart => exact ⟨0, by omega, rfl, HI0⟩
          case round =>
            clear HI0
            obtain ⟨k2, hk2, rfl, hI⟩ := hrel
            by_cases h65 : k2 < 65
            · by_cases h3 : k2 < 3
              · have HK : Hid (kept (k2 + 1) = kept k2 + 1) := kept_low k2 h3
                obtain ⟨S', T, rs, hL, hc, hg, hF, hrow, hmk, hT⟩ := hI.out
                obtain ⟨um, ul, ub, ut, us, uo, un, hB⟩ := hL
                obtain ⟨ac, cc, rfl⟩ := hrow.isSlice
                have hRT : Row wr S' 30 1 ut (L.texts ++ rs).length ((L.texts ++ rs).flatMap vcells) := hB.row 3 _ _ _ rfl rfl rfl
                have hRS : Row wr S' 9 1 us (L.tm ++ List.replicate rs.length x).length ((L.tm ++ List.replicate rs.length x).flatMap scells) := hB.row 4 _ _ _ rfl rfl rfl
                have hk4 := kept_le k2
                obtain ⟨tl, htl⟩ : ∃ t, t = (L.texts ++ rs).length := ⟨_, rfl⟩
                obtain ⟨ml, hml⟩ : ∃ t, t = (L.tm ++ List.replicate rs.length x).length := ⟨_, rfl⟩
                rw [← htl] at hRT
                rw [← hml] at hRS
                obtain ⟨at0, ct0, rfl⟩ := hRT.isSlice
                obtain ⟨as0, cs0, rfl⟩ := hRS.isSlice
                have d4 : wr.cell? ⟨p, 4, none⟩ = some (.slice at0 tl ct0) := cell_at hB.box 4
                have fzw := free_at hB.box
                have hpw := lt_at hB.box
                have htb : tl ≤ 5800000000004 := by rw [htl, List.length_append, hc]; omega
                have hmb : ml ≤ 5800000000004 := by rw [hml, List.length_append, List.length_replicate, hc]; omega
                have HRT : Hid (Row wr S' 30 1 (.slice at0 tl ct0) tl ((L.texts ++ rs).flatMap vcells)) := hRT
                have HBW : Hid (Bun wr p 34 S' (lcells (Law.addT { L with count := L.count + 1 } rs x) um ul ub (.slice at0 tl ct0) (.slice as0 ml cs0) uo un) [um, ul, ub, (.slice at0 tl ct0), (.slice as0 ml cs0), uo, un] lE (lX (Law.addT { L with count := L.count + 1 } rs x))) := hB
                have HRS2 : Hid (Row wr S' 9 1 (.slice as0 ml cs0) ml ((L.tm ++ List.replicate rs.length x).flatMap scells)) := hRS
                have HALL : Hid (rs.length = kept k2 ∧ Grow S w S' ∧ Fr (fun i => S i ∨ (Value.slice a j cap).ownBlock = some i) w wr ∧ Row wr T 9 1 (.slice ac (j + k2) cc) (j + k2) (reps (j + k2) [.string x]) ∧ (∀ r ∈ rs, Marked wr T 9 [.string x] r (.slice ac (j + k2) cc)) ∧ (∀ i, T i → ((Value.slice a j cap).ownBlock = some i ∨ w.heap.size ≤ i) ∧ ¬ S' i ∧ i < wr.heap.size)) := ⟨hc, hg, hF, hrow, hmk, hT⟩
                have HTL : Hid (tl = (L.texts ++ rs).length) := htl
                have HML : Hid (ml = (L.tm ++ List.replicate rs.length x).length) := hml
                clear hB hRT hRS hc hg hF hrow hmk hT hI htl hml hk4
                go_wp2_with (first
                  | (at_builtin; refine wpList_append_row rfl (.tmp 59) (.tmp 61) 29 rfl S' 30 (.slice none 0 0) 1 24 Tryz.underlying29 info_texts rfl (.slice at0 tl ct0) tl ((L.texts ++ rs).flatMap vcells) rfl (HRT.out.alloc _) ⟨wr.heap.size, 0, none⟩ 1 1 [.slice ac (j + k2) cc] rfl rfl one_cell (by simp [Value.oneCell']) (by omega) (by unfold maxLen; omega) (by omega) ?_; intro v1 w1 r1 f1; obtain ⟨a1, cp1, rfl⟩ := r1.isSlice; have hb1 := (HBW.out.alloc _).after 3 rfl f1; have q4 : w1.cell? ⟨p, 4, none⟩ = some (.slice at0 tl ct0) := cell_at hb1 4; have q5 : w1.cell? ⟨p, 5, none⟩ = some (.slice as0 ml cs0) := cell_at hb1 5; have fz1 := free_at hb1; have hp1 := lt_at hb1; have R1 : Hid _ := r1; have F1 : Hid (Fr _ _ w1) := f1; have B1 : Hid _ := (HBW.out.alloc _).put (C' := lcells (Law.addT { L with count := L.count + 1 } rs x) um ul ub (.slice a1 (tl + 1) cp1) (.slice as0 ml cs0) uo un) (V' := [um, ul, ub, (.slice a1 (tl + 1) cp1), (.slice as0 ml cs0), uo, un]) 3 rfl rfl _ (tl + 1, (L.texts ++ rs).flatMap vcells ++ [.slice ac (j + k2) cc]) r1 f1 4 rfl rfl rfl; have rs2 : Row (w1.setCell ⟨p, 4, none⟩ (.slice a1 (tl + 1) cp1)) (fun i => S' i ∨ (Value.slice a1 (tl + 1) cp1).ownBlock = some i) 9 1 (.slice as0 ml cs0) (L.tm ++ List.replicate rs.length x).length ((L.tm ++ List.replicate rs.length x).flatMap scells) := B1.out.row 4 _ _ _ rfl rfl rfl; rw [← HML.out] at rs2; have RS2 : Hid _ := rs2; clear hb1 r1 f1 rs2)
                  | (at_builtin; refine wpList_append_row rfl (.tmp 69) (.tmp 71) 30 rfl (fun i => S' i ∨ (Value.slice a1 (tl + 1) cp1).ownBlock = some i) 9 (.string ⟨#[]⟩) 1 16 Tryz.underlying30 info_string rfl (.slice as0 ml cs0) ml ((L.tm ++ List.replicate rs.length x).flatMap scells) rfl (RS2.out.alloc _) ⟨w1.heap.size, 0, none⟩ 1 1 [.string x] rfl rfl one_cellS (by simp [Value.oneCell']) (by omega) (by unfold maxLen; omega) (by omega) ?_; intro v2 w2 r2 f2; obtain ⟨a2, cp2, rfl⟩ := r2.isSlice; have hb2 := (B1.out.alloc _).after 4 rfl f2; have q5' : w2.cell? ⟨p, 5, none⟩ = some (.slice as0 ml cs0) := cell_at hb2 5; have fz2 := free_at hb2; have I3 : Hid (SInv w (w2.setCell ⟨p, 5, none⟩ (.slice a2 (ml + 1) cp2)) p S (.slice a j cap) { L with count := L.count + 1 } x j (kept k2 + 1) k2 (.slice ac (j + k2) cc)) := SInv.keep HTL.out HML.out HBW.out HALL.out.1 HALL.out.2.1 HALL.out.2.2.1 HALL.out.2.2.2.1 HALL.out.2.2.2.2.1 HALL.out.2.2.2.2.2 R1.out F1.out r2 f2; clear hb2 r2 f2; obtain ⟨T3, row3⟩ := I3.out.row)
                  | (at_builtin; refine wpList_append_two rfl (.tmp 75) (.tmp 77) 30 rfl T3 9 (.string ⟨#[]⟩) 1 16 Tryz.underlying30 info_string rfl (.slice ac (j + k2) cc) (j + k2) (reps (j + k2) [.string x]) rfl (row3.alloc _) ⟨w2.heap.size, 0, none⟩ 1 1 [.string x] rfl rfl one_cellS (by simp [Value.oneCell']) (by omega) (by unfold maxLen; omega) (by omega) ?_; intro v3 w3 r3 f3 g3; obtain ⟨a3, cp3, rfl⟩ := r3.isSlice; have R3 : Hid _ := r3; have F3 : Hid (Fr _ _ w3) := f3; have G3 : Hid _ := g3; clear r3 f3 g3))
                go_roundw
                case rel => exact ⟨k2 + 1, by omega, by go_num, by rw [HK.out]; exact I3.out.more R3.out F3.out G3.out⟩
                case measure => simp [intOf]; omega
              · by_cases h64 : k2 = 64
                · have HK : Hid (kept (k2 + 1) = kept k2 + 1) := (by subst h64; rfl : kept (k2 + 1) = kept k2 + 1)
                  have hz : ((k2 : Int) == 64) = true := by simp; omega
                  have h64i : (k2 : Int) = 64 ∨ True := .inr trivial
                  clear h64i h64
                  obtain ⟨S', T, rs, hL, hc, hg, hF, hrow, hmk, hT⟩ := hI.out
                  obtain ⟨um, ul, ub, ut, us, uo, un, hB⟩ := hL
                  obtain ⟨ac, cc, rfl⟩ := hrow.isSlice
                  have hRT : Row wr S' 30 1 ut (L.texts ++ rs).length ((L.texts ++ rs).flatMap vcells) := hB.row 3 _ _ _ rfl rfl rfl
                  have hRS : Row wr S' 9 1 us (L.tm ++ List.replicate rs.length x).length ((L.tm ++ List.replicate rs.length x).flatMap scells) := hB.row 4 _ _ _ rfl rfl rfl
                  have hk4 := kept_le k2
                  obtain ⟨tl, htl⟩ : ∃ t, t = (L.texts ++ rs).length := ⟨_, rfl⟩
                  obtain ⟨ml, hml⟩ : ∃ t, t = (L.tm ++ List.replicate rs.length x).length := ⟨_, rfl⟩
                  rw [← htl] at hRT
                  rw [← hml] at hRS
                  obtain ⟨at0, ct0, rfl⟩ := hRT.isSlice
                  obtain ⟨as0, cs0, rfl⟩ := hRS.isSlice
                  have d4 : wr.cell? ⟨p, 4, none⟩ = some (.slice at0 tl ct0) := cell_at hB.box 4
                  have fzw := free_at hB.box
                  have hpw := lt_at hB.box
                  have htb : tl ≤ 5800000000004 := by rw [htl, List.length_append, hc]; omega
                  have hmb : ml ≤ 5800000000004 := by rw [hml, List.length_append, List.length_replicate, hc]; omega
                  have HRT : Hid (Row wr S' 30 1 (.slice at0 tl ct0) tl ((L.texts ++ rs).flatMap vcells)) := hRT
                  have HBW : Hid (Bun wr p 34 S' (lcells (Law.addT { L with count := L.count + 1 } rs x) um ul ub (.slice at0 tl ct0) (.slice as0 ml cs0) uo un) [um, ul, ub, (.slice at0 tl ct0), (.slice as0 ml cs0), uo, un] lE (lX (Law.addT { L with count := L.count + 1 } rs x))) := hB
                  have HRS2 : Hid (Row wr S' 9 1 (.slice as0 ml cs0) ml ((L.tm ++ List.replicate rs.length x).flatMap scells)) := hRS
                  have HALL : Hid (rs.length = kept k2 ∧ Grow S w S' ∧ Fr (fun i => S i ∨ (Value.slice a j cap).ownBlock = some i) w wr ∧ Row wr T 9 1 (.slice ac (j + k2) cc) (j + k2) (reps (j + k2) [.string x]) ∧ (∀ r ∈ rs, Marked wr T 9 [.string x] r (.slice ac (j + k2) cc)) ∧ (∀ i, T i → ((Value.slice a j cap).ownBlock = some i ∨ w.heap.size ≤ i) ∧ ¬ S' i ∧ i < wr.heap.size)) := ⟨hc, hg, hF, hrow, hmk, hT⟩
                  have HTL : Hid (tl = (L.texts ++ rs).length) := htl
                  have HML : Hid (ml = (L.tm ++ List.replicate rs.length x).length) := hml
                  clear hB hRT hRS hc hg hF hrow hmk hT hI htl hml hk4
                  go_wp2_with (first
                    | (at_builtin; refine wpList_append_row rfl (.tmp 59) (.tmp 61) 29 rfl S' 30 (.slice none 0 0) 1 24 Tryz.underlying29 info_texts rfl (.slice at0 tl ct0) tl ((L.texts ++ rs).flatMap vcells) rfl (HRT.out.alloc _) ⟨wr.heap.size, 0, none⟩ 1 1 [.slice ac (j + k2) cc] rfl rfl one_cell (by simp [Value.oneCell']) (by omega) (by unfold maxLen; omega) (by omega) ?_; intro v1 w1 r1 f1; obtain ⟨a1, cp1, rfl⟩ := r1.isSlice; have hb1 := (HBW.out.alloc _).after 3 rfl f1; have q4 : w1.cell? ⟨p, 4, none⟩ = some (.slice at0 tl ct0) := cell_at hb1 4; have q5 : w1.cell? ⟨p, 5, none⟩ = some (.slice as0 ml cs0) := cell_at hb1 5; have fz1 := free_at hb1; have hp1 := lt_at hb1; have R1 : Hid _ := r1; have F1 : Hid (Fr _ _ w1) := f1; have B1 : Hid _ := (HBW.out.alloc _).put (C' := lcells (Law.addT { L with count := L.count + 1 } rs x) um ul ub (.slice a1 (tl + 1) cp1) (.slice as0 ml cs0) uo un) (V' := [um, ul, ub, (.slice a1 (tl + 1) cp1), (.slice as0 ml cs0), uo, un]) 3 rfl rfl _ (tl + 1, (L.texts ++ rs).flatMap vcells ++ [.slice ac (j + k2) cc]) r1 f1 4 rfl rfl rfl; have rs2 : Row (w1.setCell ⟨p, 4, none⟩ (.slice a1 (tl + 1) cp1)) (fun i => S' i ∨ (Value.slice a1 (tl + 1) cp1).ownBlock = some i) 9 1 (.slice as0 ml cs0) (L.tm ++ List.replicate rs.length x).length ((L.tm ++ List.replicate rs.length x).flatMap scells) := B1.out.row 4 _ _ _ rfl rfl rfl; rw [← HML.out] at rs2; have RS2 : Hid _ := rs2; clear hb1 r1 f1 rs2)
                    | (at_builtin; refine wpList_append_row rfl (.tmp 69) (.tmp 71) 30 rfl (fun i => S' i ∨ (Value.slice a1 (tl + 1) cp1).ownBlock = some i) 9 (.string ⟨#[]⟩) 1 16 Tryz.underlying30 info_string rfl (.slice as0 ml cs0) ml ((L.tm ++ List.replicate rs.length x).flatMap scells) rfl (RS2.out.alloc _) ⟨w1.heap.size, 0, none⟩ 1 1 [.string x] rfl rfl one_cellS (by simp [Value.oneCell']) (by omega) (by unfold maxLen; omega) (by omega) ?_; intro v2 w2 r2 f2; obtain ⟨a2, cp2, rfl⟩ := r2.isSlice; have hb2 := (B1.out.alloc _).after 4 rfl f2; have q5' : w2.cell? ⟨p, 5, none⟩ = some (.slice as0 ml cs0) := cell_at hb2 5; have fz2 := free_at hb2; have I3 : Hid (SInv w (w2.setCell ⟨p, 5, none⟩ (.slice a2 (ml + 1) cp2)) p S (.slice a j cap) { L with count := L.count + 1 } x j (kept k2 + 1) k2 (.slice ac (j + k2) cc)) := SInv.keep HTL.out HML.out HBW.out HALL.out.1 HALL.out.2.1 HALL.out.2.2.1 HALL.out.2.2.2.1 HALL.out.2.2.2.2.1 HALL.out.2.2.2.2.2 R1.out F1.out r2 f2; clear hb2 r2 f2; obtain ⟨T3, row3⟩ := I3.out.row)
                    | (at_builtin; refine wpList_append_two rfl (.tmp 75) (.tmp 77) 30 rfl T3 9 (.string ⟨#[]⟩) 1 16 Tryz.underlying30 info_string rfl (.slice ac (j + k2) cc) (j + k2) (reps (j + k2) [.string x]) rfl (row3.alloc _) ⟨w2.heap.size, 0, none⟩ 1 1 [.string x] rfl rfl one_cellS (by simp [Value.oneCell']) (by omega) (by unfold maxLen; omega) (by omega) ?_; intro v3 w3 r3 f3 g3; obtain ⟨a3, cp3, rfl⟩ := r3.isSlice; have R3 : Hid _ := r3; have F3 : Hid (Fr _ _ w3) := f3; have G3 : Hid _ := g3; clear r3 f3 g3))
                  go_roundw
                  case rel => exact ⟨k2 + 1, by omega, by go_num, by rw [HK.out]; exact I3.out.more R3.out F3.out G3.out⟩
                  case measure => simp [intOf]; omega
                · have HK : Hid (kept (k2 + 1) = kept k2) := kept_same k2 (by omega) (by omega)
                  have hz : ((k2 : Int) == 64) = false := by simp; omega
                  obtain ⟨ac, cc, rfl⟩ : ∃ ac cc, _ = Value.slice ac (j + k2) cc := (by obtain ⟨_, _, _, _, _, _, _, hrow, _⟩ := hI.out; exact hrow.isSlice)
                  have HRC : Hid (∃ T, Row wr T 9 1 (.slice ac (j + k2) cc) (j + k2) (reps (j + k2) [.string x])) := (by obtain ⟨_, T, _, _, _, _, _, hrow, _⟩ := hI.out; exact ⟨T, hrow⟩)
                  obtain ⟨T, hrow⟩ := HRC.out
                  go_wp2_with (at_builtin; refine wpList_append_two rfl (.tmp 75) (.tmp 77) 30 rfl T 9 (.string ⟨#[]⟩) 1 16 Tryz.underlying30 info_string rfl (.slice ac (j + k2) cc) (j + k2) (reps (j + k2) [.string x]) rfl (hrow.alloc _) ⟨wr.heap.size, 0, none⟩ 1 1 [.string x] rfl rfl one_cell (by simp [Value.oneCell']) (by omega) (by unfold maxLen; omega) (by omega) ?_; intro v1 w1 r1 f1 g1; obtain ⟨a1, cp1, rfl⟩ := r1.isSlice; have R1 : Hid _ := r1; have F1 : Hid (Fr _ _ w1) := f1; have G1 : Hid _ := g1; clear r1 f1 g1)
                  go_roundw
                  case rel => exact ⟨k2 + 1, by omega, by go_num, by rw [HK.out]; exact hI.out.more R1.out F1.out G1.out⟩
                  case measure => simp [intOf]; omega
            · have hk65 : k2 = 65 := by omega
              subst hk65
              go_wp2
              go_end0
              exact ⟨rfl, x, _, hI.out⟩
end Go.Proofs.YtkehpnobidendaaGreatDoor

namespace Go.Proofs.YtkehpnobidendaaGreatDoor
open Go.RowKit

theorem run_rowPut {P : Program} (w : World) (g o : Nat) (ty e : TypeId) (C : List Value) (cur : Array Value) (hg : w.heap[g]? = some (.cells cur e (0, 0))) (hfit : o + C.length ≤ cur.size) (hi : (P.info? ty).map (·.size) = some C.length) (h1 : ∀ u ∈ C, u.oneCell' = true) :
    (rowPut ty ⟨g, o, none⟩ (.agg C.toArray)).run P w = .ok () (w.setRow g (cur.toList.take o ++ C ++ cur.toList.drop (o + C.length)).toArray) := by
  have hst := run_storeCells_at P g o e C 0 cur w hg (by simpa using hfit) h1
  simp only [Nat.add_zero] at hst
  cases hq : P.info? ty with
  | none => simp [hq] at hi
  | some i =>
    have hs : i.size = C.length := by simpa [hq] using hi
    simp [rowPut, storeVar, sizeOf, typeInfo, hq, hs, Value.cells, hst]
theorem seg_put (l C ys : List Value) (off j s n : Nat) (hC : C.length = s) (hj : j < n) (hfit : off + n * s ≤ l.length) (hys : ys.length = n * s) (h : (l.drop off).take (n * s) = reps j C ++ ys.drop (j * s)) :
    ((l.take (off + j * s) ++ C ++ l.drop (off + j * s + C.length)).drop off).take (n * s) = reps (j + 1) C ++ ys.drop ((j + 1) * s) := by
  have hjs : (j + 1) * s ≤ n * s := Nat.mul_le_mul_right _ hj
  have e1 : (j + 1) * s = j * s + s := Nat.succ_mul j s
  have hr : (reps j C).length = j * s := by rw [reps_len, hC]
  apply List.ext_getElem?
  intro i
  have hi := congrArg (fun x => x[i]?) h
  simp only [List.getElem?_take, List.getElem?_drop] at hi ⊢
  rw [reps_succ]
  simp only [List.getElem?_append, List.length_append, List.length_take, List.getElem?_take, List.getElem?_drop, hr, hC] at hi ⊢
  have hmin : min (off + j * s) l.length = off + j * s := by omega
  rw [hmin]
  by_cases hin : i < n * s
  · simp only [hin, if_true] at hi ⊢
    by_cases h1 : i < j * s
    · have a1 : off + i < off + j * s := by omega
      have a2 : off + i < off + j * s + s := by omega
      have a3 : i < j * s + s := by omega
      simp only [a1, a2, a3, h1, if_true] at hi ⊢
      exact hi
    · by_cases h2 : i < j * s + s
      · have a1 : ¬ off + i < off + j * s := by omega
        have a2 : off + i < off + j * s + s := by omega
        simp only [a1, a2, h1, h2, if_true, if_false]
        congr 1; omega
      · have a2 : ¬ off + i < off + j * s + s := by omega
        simp only [a2, h1, h2, if_false] at hi ⊢
        have a4 : off + j * s + s + (off + i - (off + j * s + s)) = off + i := by omega
        have a5 : (j + 1) * s + (i - (j * s + s)) = j * s + (i - j * s) := by omega
        rw [a4, a5]
        exact hi
  · simp only [hin, if_false]
    have a3 : ¬ i < j * s := by omega
    have a4 : ¬ i < j * s + s := by omega
    simp only [a3, a4, if_false]
    rw [eq_comm, List.getElem?_eq_none_iff]
    omega
/-- The owner writes one element over. -/
theorem Row.over {P : Program} {w : World} {R : Nat → Prop} {e : TypeId} {s g off n cap j : Nat} {C ys : List Value} (ty : TypeId) (h : Row w R e s (.slice (some ⟨g, off, none⟩) n cap) n (reps j C ++ ys.drop (j * s))) (hC : C.length = s) (hj : j < n) (hys : ys.length = n * s) (hi : (P.info? ty).map (·.size) = some s) (h1 : ∀ u ∈ C, u.oneCell' = true) :
    ∃ W, (rowPut ty ⟨g, off + j * s, none⟩ (.agg C.toArray)).run P w = .ok () W ∧ Row W R e s (.slice (some ⟨g, off, none⟩) n cap) n (reps (j + 1) C ++ ys.drop ((j + 1) * s)) ∧ Fr (fun k => k = g) w W := by
  rcases h.val with ⟨h0, _⟩ | ⟨g', off', cap', cur, hv, hS, hg, hnc, hm, hs, hx⟩
  · cases h0
  · cases hv
    have hjs : (j + 1) * s ≤ n * s := Nat.mul_le_mul_right _ hj
    have e1 : (j + 1) * s = j * s + s := Nat.succ_mul j s
    have hns : n * s ≤ cap * s := Nat.mul_le_mul_right _ hnc
    have hlen : cur.toList.length = cur.size := Array.length_toList
    refine ⟨_, run_rowPut w g (off + j * s) ty e C cur hg (by omega) (by rw [hC]; exact hi) h1, ⟨?_, .inr ⟨g, off, cap, _, rfl, hS, setRow_heap w g cur _ e _ hg, hnc, hm, ?_, ?_⟩⟩, ⟨rfl, rfl, rfl, by simp, fun k _ hk => setRow_other w g k _ hk⟩⟩
    · rw [List.length_append, reps_len, List.length_drop, hC, hys]; omega
    · simp only [List.size_toArray, List.length_append, List.length_take, List.length_drop]
      omega
    · exact seg_put cur.toList C ys off j s n hC hj (by omega) hys hx
end Go.Proofs.YtkehpnobidendaaGreatDoor

namespace Go.Proofs.YtkehpnobidendaaGreatDoor
open Go.RowKit

/-- The cells of a mark among letters. -/
def lmk (z : Int) : List Value := Ltr.cells ⟨z, Msg.zero⟩
theorem lmk_len (z : Int) : (lmk z).length = 20 := rfl
/-- Slices are kept, with their mark. -/
def Law.addO (L : Law) (rs : List Value) (x : Int) : Law := { L with outs := L.outs ++ rs, om := L.om ++ List.replicate rs.length x }
/-- What holds while a list of texts is written over. -/
structure OInv (w wr : World) (p : Nat) (S : Nat → Prop) (v0 : Value) (L1 : Law) (x : Int) (n c k : Nat) (cur : Value) : Prop where
  ex : ∃ S' T rs, LMem wr p S' (L1.addO rs x) ∧ rs.length = c ∧ Grow S w S' ∧ Fr (fun j => S j ∨ v0.ownBlock = some j) w wr ∧ Row wr T 67 20 cur (n + k) (reps (n + k) (lmk x)) ∧ (∀ r ∈ rs, Marked wr T 67 (lmk x) r cur) ∧ (∀ j, T j → (v0.ownBlock = some j ∨ w.heap.size ≤ j) ∧ ¬ S' j ∧ j < wr.heap.size)
theorem OInv.row {w wr : World} {p : Nat} {S : Nat → Prop} {v0 : Value} {L1 : Law} {x : Int} {n c k : Nat} {cur : Value} (h : OInv w wr p S v0 L1 x n c k cur) : ∃ T, Row wr T 67 20 cur (n + k) (reps (n + k) (lmk x)) := by
  obtain ⟨_, T, _, _, _, _, _, hrow, _⟩ := h
  exact ⟨T, hrow⟩
theorem addO_nil (L : Law) (x : Int) : L.addO [] x = L := by simp [Law.addO]
theorem OInv.start {w wr : World} {p : Nat} {S R : Nat → Prop} {v : Value} {L1 : Law} {x : Int} {n : Nat} (hL : LMem wr p S L1) (hV : Row wr R 67 20 v n (reps n (lmk x))) (hR : ∀ k, R k → ¬ S k) (hF : Fr (fun j => S j ∨ v.ownBlock = some j) w wr) : OInv w wr p S v L1 x n 0 0 v := by
  refine ⟨S, fun i => v.ownBlock = some i, [], by rw [addO_nil]; exact hL, rfl, Grow.refl _ _, hF, hV.reown (fun i hi => hi), (fun r hr => by cases hr), fun i hi => ⟨.inl hi, fun hS => hR i (hV.ownS hi).1 hS, (hV.ownS hi).2⟩⟩
/-- The owner appends once more. -/
theorem OInv.more {w wr w1 : World} {p : Nat} {S : Nat → Prop} {v0 : Value} {L1 : Law} {x : Int} {n c k : Nat} {cur cur' : Value} {o : Obj} (h : OInv w wr p S v0 L1 x n c k cur)
    (hr : Row w1 (fun j => cur.ownBlock = some j ∨ j = (wr.alloc o).heap.size) 67 20 cur' (n + k + 1) (reps (n + k) (lmk x) ++ lmk x)) (hf : Fr (fun j => cur.ownBlock = some j) (wr.alloc o) w1) (h2 : (∃ a cap, cur = .slice a (n + k) cap ∧ cur' = .slice a (n + k + 1) cap) ∨ (Below (wr.alloc o).heap.size (wr.alloc o) w1 ∧ cur'.ownBlock = some (wr.alloc o).heap.size)) : OInv w w1 p S v0 L1 x n c (k + 1) cur' := by
  obtain ⟨S', T, rs, hL, hc, hg, hF, hrow, hmk, hT⟩ := h
  have hb : Below wr.heap.size wr (wr.alloc o) := (Below.refl _ _).alloc (Nat.le_refl _) o
  have hL' := hL.below hb
  have hrow' := hrow.below hb
  have hsz : (wr.alloc o).heap.size = wr.heap.size + 1 := by simp
  have hw := hF.size
  refine ⟨S', fun j => T j ∨ cur'.ownBlock = some j, rs, hL'.fr hf (fun j hj hk => (hT j (hrow.ownS hk).1).2.1 hj), hc, hg, ?_, ?_, fun r hr' => ?_, fun j hj => ?_⟩
  · exact (hF.trans (Fr.of_below (S := fun j => S j ∨ v0.ownBlock = some j) hb) (fun _ h => .inl h)).trans hf (fun j hj => by
      rcases (hT j (hrow.ownS hj).1).1 with h1 | h1
      · exact .inl (.inr h1)
      · exact .inr h1)
  · rw [← reps_succ] at hr
    exact hr.reown (fun j hj => .inr hj)
  · have h1 : Marked (wr.alloc o) T 67 (lmk x) r cur := (hmk r hr').same (fun j hj hl => ⟨hb.block j hl, hj⟩)
    exact (h1.step hrow' hr hf h2).same (fun j hj _ => ⟨rfl, .inl hj⟩)
  · rcases hj with hj | hj
    · exact ⟨(hT j hj).1, (hT j hj).2.1, Nat.lt_of_lt_of_le (hT j hj).2.2 (Nat.le_trans hb.size hf.size)⟩
    · have h3 := hr.ownS hj
      rcases h3.1 with h4 | h4
      · have h5 := hT j (hrow.ownS h4).1
        exact ⟨h5.1, h5.2.1, h3.2⟩
      · exact ⟨.inr (by omega), fun hS => by have := hL.own j hS; omega, h3.2⟩
/-- A slice is kept. -/
theorem OInv.keep {w wr w1 w2 : World} {p : Nat} {S : Nat → Prop} {v0 : Value} {L1 : Law} {x : Int} {n c k : Nat} {cur : Value} {o1 o2 : Obj} {S' T : Nat → Prop} {rs : List Value} {um ul ub uo un ut us ut' us' : Value} {tl ml : Nat} (htl : tl = (L1.outs ++ rs).length) (hml : ml = (L1.om ++ List.replicate rs.length x).length)
    (hB : Bun wr p 34 S' (lcells (L1.addO rs x) um ul ub uo un ut us) [um, ul, ub, uo, un, ut, us] lE (lX (L1.addO rs x))) (hc : rs.length = c) (hg : Grow S w S') (hF : Fr (fun j => S j ∨ v0.ownBlock = some j) w wr) (hrow : Row wr T 67 20 cur (n + k) (reps (n + k) (lmk x))) (hmk : ∀ r ∈ rs, Marked wr T 67 (lmk x) r cur) (hT : ∀ j, T j → (v0.ownBlock = some j ∨ w.heap.size ≤ j) ∧ ¬ S' j ∧ j < wr.heap.size)
    (r1 : Row w1 (fun j => ut.ownBlock = some j ∨ j = (wr.alloc o1).heap.size) 27 1 ut' (tl + 1) ((L1.outs ++ rs).flatMap vcells ++ [cur])) (f1 : Fr (fun j => ut.ownBlock = some j) (wr.alloc o1) w1)
    (r2 : Row w2 (fun j => us.ownBlock = some j ∨ j = ((w1.setCell ⟨p, 6, none⟩ ut').alloc o2).drew.heap.size) 3 1 us' (ml + 1) ((L1.om ++ List.replicate rs.length x).flatMap icells ++ [.int .i64 x])) (f2 : Fr (fun j => us.ownBlock = some j) ((w1.setCell ⟨p, 6, none⟩ ut').alloc o2).drew w2) :
    OInv w (w2.setCell ⟨p, 7, none⟩ us') p S v0 L1 x n (c + 1) k cur := by
  subst htl hml
  have hb : Below wr.heap.size wr (wr.alloc o1) := (Below.refl _ _).alloc (Nat.le_refl _) o1
  have h1 := (hB.alloc o1).put (C' := lcells (L1.addO rs x) um ul ub uo un ut' us) (V' := [um, ul, ub, uo, un, ut', us]) 5 rfl rfl ut' ((L1.outs ++ rs).length + 1, (L1.outs ++ rs).flatMap vcells ++ [cur]) r1 f1 6 rfl rfl rfl
  have h2 := ((h1.alloc o2).drew).put (C' := lcells (L1.addO (rs ++ [cur]) x) um ul ub uo un ut' us') (V' := [um, ul, ub, uo, un, ut', us']) (X' := lX (L1.addO (rs ++ [cur]) x)) 6 rfl rfl us' ((L1.om ++ List.replicate rs.length x).length + 1, (L1.om ++ List.replicate rs.length x).flatMap icells ++ [.int .i64 x]) r2 f2 7 rfl rfl (by
    simp [lX, Law.addO, vcells, icells, List.replicate_succ']; omega)
  have f1' := (hB.alloc o1).frPut (S := S') (w := wr) (Fr.alloc _ _ _) 5 rfl f1 6 ut'
  have e1 : (wr.alloc o1).heap.size = wr.heap.size + 1 := by simp
  have e2 : ((w1.setCell ⟨p, 6, none⟩ ut').alloc o2).heap.size = w1.heap.size + 1 := by simp
  have hw1 := f1.size
  have hwr := hF.size
  have f2' : Fr (fun j => S' j ∨ ut'.ownBlock = some j) (w1.setCell ⟨p, 6, none⟩ ut') (w2.setCell ⟨p, 7, none⟩ us') := ((h1.alloc o2).drew).frPut ((Fr.alloc _ _ _).trans (Fr.drew _ _) (fun _ h => .inl h)) 6 rfl f2 7 us'
  have g1 : Grow S' wr (fun j => S' j ∨ ut'.ownBlock = some j) := grow_put r1 (by omega) (fun j hj => (hB.own (i := 5) rfl hj).1)
  have f12 : Fr S' wr (w2.setCell ⟨p, 7, none⟩ us') := f1'.grow g1 f2'
  have g2 : Grow S' wr (fun j => (S' j ∨ ut'.ownBlock = some j) ∨ us'.ownBlock = some j) := g1.trans f1'.size (grow_put r2 (by simp [World.drew]) (fun j hj => (h1.own (i := 6) rfl hj).1))
  refine ⟨_, T, rs ++ [cur], ⟨um, ul, ub, uo, un, ut', us', h2⟩, by simp [hc], hg.trans hwr g2, ?_, ?_, fun r hr => ?_, fun j hj => ⟨(hT j hj).1, fun h => ?_, Nat.lt_of_lt_of_le (hT j hj).2.2 f12.size⟩⟩
  · exact hF.trans f12 (fun j hj => (hg j hj).imp .inl id)
  · exact hrow.same (fun j hj hl => ⟨f12.block j hl (hT j hj).2.1, hj⟩)
  · have hM : Marked wr T 67 (lmk x) r cur := by
      rcases List.mem_append.1 hr with h | h
      · exact hmk r h
      · simp at h; subst h; exact Marked.self hrow
    exact hM.same (fun j hj hl => ⟨f12.block j hl (hT j hj).2.1, hj⟩)
  · rcases g2 j h with h1 | h1
    · exact (hT j hj).2.1 h1
    · have := (hT j hj).2.2; omega

/-- The same, since an earlier world. -/
theorem OInv.since {w wB wr : World} {p : Nat} {S : Nat → Prop} {v0 : Value} {L1 : Law} {x : Int} {n c k : Nat} {cur : Value} (h : OInv wB wr p S v0 L1 x n c k cur) (hf : Fr S w wB) : OInv w wr p S v0 L1 x n c k cur := by
  obtain ⟨S', T, rs, hL, hc, hg, hF, hrow, hmk, hT⟩ := h
  have hs := hf.size
  exact ⟨S', T, rs, hL, hc, fun j hj => (hg j hj).imp id (fun h => by omega), (hf.mono (fun _ h => .inl h)).trans hF (fun _ h => .inl h), hrow, hmk, fun j hj => ⟨(hT j hj).1.imp id (fun h => by omega), (hT j hj).2⟩⟩
theorem OInv.fr {wB wr : World} {p : Nat} {S : Nat → Prop} {v0 : Value} {L1 : Law} {x : Int} {n c k : Nat} {cur : Value} (h : OInv wB wr p S v0 L1 x n c k cur) : Fr (fun j => S j ∨ v0.ownBlock = some j) wB wr := by
  obtain ⟨S', T, rs, hL, hc, hg, hF, hrow, hmk, hT⟩ := h
  exact hF
end Go.Proofs.YtkehpnobidendaaGreatDoor
