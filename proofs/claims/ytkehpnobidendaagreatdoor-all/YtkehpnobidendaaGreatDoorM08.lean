/- The model: a member as plain data, and what New, Submit, Tick and Handle make of it, after the document's own words. No program in it. -/
import Derived.Test.YtkehpnobidendaaGreatDoorM05
namespace Go.Proofs.YtkehpnobidendaaGreatDoor
open Go.RowKit

/-- A certificate. -/
structure Crt where
  view : Int
  block : Nat
  s0 : Int
  s1 : Int
  s2 : Int
  s3 : Int
  deriving DecidableEq
/-- A block. -/
structure Blk where
  view : Int
  just : Crt
  cmd : ByteArray
  deriving DecidableEq
/-- A message. -/
structure Msg where
  kind : Int
  fro : Int
  view : Int
  block : Blk
  number : Nat
  cert : Crt
  sl : Int
  deriving DecidableEq
/-- A letter. -/
structure Ltr where
  to : Int
  msg : Msg
  deriving DecidableEq
/-- A vote, or an Enter, that was taken. -/
structure Tk where
  fro : Int
  view : Int
  n : Nat
  sl : Int
/-- A member. -/
structure Mem where
  id : Int
  patience : Int
  view : Int
  voted : Int
  waited : Int
  high : Crt
  locked : Crt
  blocks : List (Nat × Blk)
  votes : List Tk
  enters : List Tk
  proposed : List Int
  log : List Nat
  queue : List ByteArray

def Crt.zero : Crt := ⟨0, 0, 0, 0, 0, 0⟩
def Blk.zero : Blk := ⟨0, Crt.zero, ⟨#[]⟩⟩
def Msg.zero : Msg := ⟨0, 0, 0, Blk.zero, 0, Crt.zero, 0⟩
def Crt.good (c : Crt) : Bool := goodB c.view c.block c.s0 c.s1 c.s2 c.s3
def Blk.num (b : Blk) : Nat := (numberOf b.view b.just.block b.cmd.data.toList).toNat

theorem wrap_u64_range (x : Int) : 0 ≤ IntKind.u64.wrap x ∧ IntKind.u64.wrap x < 18446744073709551616 := by
  have h : IntKind.u64.wrap x = x % 18446744073709551616 := by
    unfold IntKind.wrap
    simp only [show IntKind.u64.signed = false from rfl, show IntKind.u64.bits = 64 from rfl]
    rfl
  rw [h]; omega
theorem fnv_range (l : List UInt8) : 0 ≤ fnv l ∧ fnv l < 18446744073709551616 := by
  unfold fnv
  have : ∀ (l : List UInt8) (h : Int), (0 ≤ h ∧ h < 18446744073709551616) → 0 ≤ l.foldl hstep h ∧ l.foldl hstep h < 18446744073709551616 := by
    intro l
    induction l with
    | nil => intro h hh; exact hh
    | cons c r ih => intro h _; exact ih _ (wrap_u64_range _)
  exact this l _ (by omega)
theorem num_cast (b : Blk) : ((b.num : Nat) : Int) = numberOf b.view b.just.block b.cmd.data.toList := Int.toNat_of_nonneg (fnv_range _).1
theorem num_lt (b : Blk) : b.num < 18446744073709551616 := by
  have := (fnv_range (Lib.itoa b.view ++ 32 :: (Lib.decDigits b.just.block ++ 32 :: b.cmd.data.toList))).2
  have h := num_cast b
  unfold numberOf at h
  omega
theorem seal_range (m k v : Int) (u : Nat) : 0 ≤ sealOf m k v u ∧ sealOf m k v u < 18446744073709551616 := fnv_range _

/-- The block of a number, if it is known. -/
def find (n : Nat) : List (Nat × Blk) → Option Blk
  | [] => none
  | (k, b) :: r => if k = n then some b else find n r
def Mem.block (m : Mem) (n : Nat) : Option Blk := find n m.blocks
/-- The parent's number (0, where the block is not known). -/
def Mem.up (m : Mem) (n : Nat) : Nat := ((m.block n).getD Blk.zero).just.block
/-- A block is known from now on. -/
def Mem.knows (m : Mem) (b : Blk) : Mem := if (m.block b.num).isSome then m else { m with blocks := m.blocks ++ [(b.num, b)] }
/-- Is a block this one, or among those ahead of it? (So many steps at most.) -/
def Mem.above (m : Mem) (old : Nat) : Nat → Nat → Bool
  | 0, _ => false
  | f + 1, n => if n = old then true else if n = 0 then false else m.above old f (m.up n)
def Mem.logged (m : Mem) (n : Nat) : Bool := m.log.contains n || n == 0
/-- From a block on, those that are not in the log, the newest first. (So many steps at most.) -/
def Mem.more (m : Mem) : Nat → Nat → List Nat
  | 0, _ => []
  | f + 1, n => n :: (if m.logged (m.up n) then [] else m.more f (m.up n))
/-- The third block is committed, if it may be. -/
def Mem.commit (m : Mem) (b : Blk) : Mem :=
  let p := (m.block b.just.block).getD Blk.zero
  let d := p.just.block
  let o := (m.block d).getD Blk.zero
  if m.logged d || b.view != p.view + 1 || p.view != o.view + 1 then m
  else if !m.log.isEmpty && !m.above (m.log.getLastD 0) (m.blocks.length + 1) d then m
  else { m with log := m.log ++ (m.more (m.blocks.length + 1) d).reverse }
/-- To learn of a certificate. -/
def Mem.learn (m : Mem) (c : Crt) : Mem :=
  let m := if c.view > m.high.view then { m with high := c } else m
  if c.block = 0 then m else
  let b := (m.block c.block).getD Blk.zero
  let m := if b.just.view > m.locked.view then { m with locked := b.just } else m
  if b.just.block = 0 then m else m.commit b
/-- To enter a view. -/
def Mem.enter (m : Mem) (v : Int) : Mem := { m with view := v, waited := 0 }
/-- May it propose? -/
def Mem.may (m : Mem) : Bool := m.view % 4 == m.id && !m.proposed.contains m.view && (m.high.view == m.view - 1 || decide (3 ≤ (m.enters.filter (fun t => t.view == m.view)).length))
/-- The block that it proposes. -/
def Mem.next (m : Mem) : Blk := ⟨m.view, m.high, m.queue.headD ⟨#[]⟩⟩
/-- A call ends: it proposes, if it may. -/
def Mem.ends (m : Mem) : Mem × List Ltr :=
  if m.may then
    let b := m.next
    let m1 : Mem := { m with queue := m.queue.tail, proposed := m.proposed ++ [m.view] }
    (m1.knows b, [⟨-1, { Msg.zero with kind := 1, fro := m.id, view := m.view, block := b, sl := sealOf m.id 1 m.view b.num }⟩])
  else (m, [])
/-- New. -/
def Mem.new (id patience : Int) : Mem := ⟨id, patience, 1, 0, 0, Crt.zero, Crt.zero, [(0, Blk.zero)], [], [], [], [], []⟩
/-- Submit. -/
def Mem.submit (m : Mem) (c : ByteArray) : Mem × Int :=
  if 16 < c.size then (m, 1) else if 8 ≤ m.queue.length then (m, 6) else ({ m with queue := m.queue ++ [c] }, 0)
/-- Log. -/
def Mem.commands (m : Mem) : List ByteArray := m.log.map fun n => ((m.block n).getD Blk.zero).cmd
/-- Its Enter. -/
def Mem.enterLtr (m : Mem) : Ltr := ⟨m.view % 4, { Msg.zero with kind := 3, fro := m.id, view := m.view, cert := m.high, sl := sealOf m.id 3 m.view 0 }⟩
/-- Tick, ahead of its end. -/
def Mem.wait (m : Mem) : Mem × List Ltr :=
  let m1 : Mem := { m with waited := m.waited + 1 }
  if m1.patience ≤ m1.waited ∧ m1.view < 1000 then
    let m2 := m1.enter (m1.view + 1)
    (m2, [m2.enterLtr])
  else (m1, [])
def Mem.tick (m : Mem) : Mem × List Ltr := ((m.wait.1.ends).1, m.wait.2 ++ (m.wait.1.ends).2)
/-- P6. -/
def Mem.proposal (m : Mem) (x : Msg) : Mem × List Ltr × Int :=
  let b := x.block
  if x.view < 1 ∨ 1000 < x.view ∨ x.fro ≠ x.view % 4 ∨ b.view ≠ x.view ∨ 16 < b.cmd.size ∨ b.just.view < 0 ∨ x.view ≤ b.just.view then (m, [], 1)
  else if x.sl ≠ sealOf x.fro 1 x.view b.num ∨ b.just.good = false then (m, [], 2)
  else match m.block b.just.block with
  | none => (m, [], 3)
  | some p =>
    if p.view ≠ b.just.view then (m, [], 3)
    else if x.view < m.view ∨ x.view ≤ m.voted then (m, [], 4)
    else
      let m1 := (m.knows b).learn b.just
      let m2 := if m1.above m1.locked.block (m1.blocks.length + 1) b.just.block || decide (m1.locked.view < b.just.view) then ({ m1 with voted := x.view }, [(⟨(x.view + 1) % 4, { Msg.zero with kind := 2, fro := m.id, view := x.view, number := b.num, sl := sealOf m.id 2 x.view b.num }⟩ : Ltr)]) else (m1, [])
      (m2.1.enter (if x.view < 1000 then x.view + 1 else x.view), m2.2, 0)
/-- A seal is put into a certificate. -/
def Crt.put (c : Crt) (i : Int) (s : Int) : Crt := if i = 0 then { c with s0 := s } else if i = 1 then { c with s1 := s } else if i = 2 then { c with s2 := s } else { c with s3 := s }
/-- The votes for a block that were taken. -/
def Mem.votesFor (m : Mem) (n : Nat) : List Tk := m.votes.filter (fun t => t.n == n)
/-- P7, a Vote. -/
def Mem.vote (m : Mem) (x : Msg) : Mem × Int :=
  if x.fro < 0 ∨ 3 < x.fro ∨ x.view < 1 ∨ 999 < x.view ∨ m.id ≠ (x.view + 1) % 4 then (m, 1)
  else if x.sl ≠ sealOf x.fro 2 x.view x.number then (m, 2)
  else match m.block x.number with
  | none => (m, 3)
  | some b =>
    if b.view ≠ x.view then (m, 3)
    else if x.view < m.view - 1 ∨ x.view ≤ m.high.view then (m, 4)
    else if (m.votesFor x.number).any (fun t => t.fro == x.fro) then (m, 5)
    else
      let c := ((m.votesFor x.number).foldl (fun (c : Crt) t => c.put t.fro t.sl) { Crt.zero with view := x.view, block := x.number }).put x.fro x.sl
      let m1 : Mem := { m with votes := m.votes ++ [⟨x.fro, x.view, x.number, x.sl⟩] }
      if 3 ≤ (m.votesFor x.number).length + 1 then
        let m2 := m1.learn c
        (if m2.view ≤ x.view then m2.enter (x.view + 1) else m2, 0)
      else (m1, 0)
/-- P7, an Enter. -/
def Mem.enters1 (m : Mem) (x : Msg) : Mem × Int :=
  if x.fro < 0 ∨ 3 < x.fro ∨ x.view < 1 ∨ 1000 < x.view ∨ m.id ≠ x.view % 4 ∨ x.cert.view < 0 ∨ x.view ≤ x.cert.view then (m, 1)
  else if x.sl ≠ sealOf x.fro 3 x.view 0 ∨ x.cert.good = false then (m, 2)
  else match m.block x.cert.block with
  | none => (m, 3)
  | some b =>
    if b.view ≠ x.cert.view then (m, 3)
    else if x.view < m.view then (m, 4)
    else if (m.enters.filter (fun t => t.view == x.view)).any (fun t => t.fro == x.fro) then (m, 5)
    else
      let m1 := ({ m with enters := m.enters ++ [⟨x.fro, x.view, 0, 0⟩] } : Mem).learn x.cert
      (if 3 ≤ (m.enters.filter (fun t => t.view == x.view)).length + 1 ∧ m1.view < x.view then m1.enter x.view else m1, 0)
/-- P5, ahead of its end. -/
def Mem.takes (m : Mem) (x : Msg) : Mem × List Ltr × Int :=
  if x.kind = 1 then m.proposal x
  else if x.kind = 2 then ((m.vote x).1, [], (m.vote x).2)
  else if x.kind = 3 then ((m.enters1 x).1, [], (m.enters1 x).2)
  else (m, [], 1)
/-- Handle. -/
def Mem.handle (m : Mem) (x : Msg) : Mem × List Ltr × Int :=
  ((m.takes x).1.ends.1, (m.takes x).2.1 ++ (m.takes x).1.ends.2, (m.takes x).2.2)
end Go.Proofs.YtkehpnobidendaaGreatDoor
