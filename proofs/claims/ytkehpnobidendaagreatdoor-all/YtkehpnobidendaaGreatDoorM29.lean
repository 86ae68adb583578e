/- slices.Reverse at numbers, over this program: the library's own text is walked. slices.Reverse over a slice of ours. -/
import Derived.Test.YtkehpnobidendaaGreatDoorM28
import Derived.Deep.LoopGhost
import Derived.Sort.WalkB12
import Derived.Lib.SlicesMore
namespace Go.Proofs.YtkehpnobidendaaGreatDoor
open Go.RowKit Go.Maps Go.Sort Go.Lib

def encN (n : Nat) : Value := .int .u64 n
set_option maxHeartbeats 1600000 in
set_option maxRecDepth 1000000 in
theorem preverse (blk off cap : Nat) (d : Array Nat) (w : World) (hH : Holds encN w blk off d) (hsz : d.size ≤ 9223372036854775807) :
    Calls Tryz.prog 122 #[.slice (some ⟨blk, off, none⟩) d.size cap] w fun e w' => e = .returned (.tuple #[]) ∧ ∃ n, w' = putRow encN (Sort.ahead w n) blk off d.reverse := by
  go_enter Tryz.func122, Tryz.ntmps122
  go_wp2
  go_loopg [2, 3] d.size (fun k s2 s3 wr => ∃ (i jn : Nat) (jz : Int) (dk : Array Nat) (n : Nat), s2 = .int .i64 i ∧ s3 = .int .i64 jz ∧ ((i : Int) < jz → jz = jn ∧ jn < d.size) ∧ (¬ (i : Int) < jz → ¬ i < jn) ∧ jn - i ≤ k ∧
    dk.size = d.size ∧ wr = putRow encN (Sort.ahead w n) blk off dk ∧ reverseLoop i jn dk = reverseLoop 0 (d.size - 1) d)
  case atStart => exact ⟨0, d.size - 1, (d.size : Int) - 1, d, 0, rfl, rfl, fun h => ⟨by omega, by omega⟩, fun h => by omega, by omega, rfl, (putRow_self encN w blk off d hH).symm, rfl⟩
  case round =>
    obtain ⟨i, jn, jz, dk, n, rfl, rfl, h1, h2, hk, hds, hwr, heq⟩ := hrel
    by_cases hlt : (i : Int) < jz
    · obtain ⟨rfl, hjn⟩ := h1 hlt
      have hij : i < jn := by omega
      have hHk : Holds encN wr blk off dk := by rw [hwr]; exact holds_putRow encN _ blk off d dk (holds_ahead encN w n blk off d hH) hds
      obtain ⟨ci, fi⟩ := hHk i (by omega)
      obtain ⟨cj, fj⟩ := hHk jn (by omega)
      have A : Hid (wr = putRow encN (Sort.ahead w n) blk off dk) := hwr
      clear hwr hHk hH h1 h2
      unfold encN at ci cj
      go_wp2_with fail
      go_region
      go_wp2
      go_roundg (jn - 1 - (i + 1))
      case measure => omega
      case rel =>
        rw [reverseLoop, if_pos hij] at heq
        exact ⟨i + 1, jn - 1, (jn : Int) - 1, swp dk i jn, n + 1, by simp, rfl, fun h => ⟨by omega, by omega⟩, fun h => by omega, Nat.le_refl _, by rw [size_swp]; exact hds,
          swap_world encN (by omega) (by omega) A.out (by first | rfl | simp [encN, getElem!_pos, show jn < dk.size by omega]) (by first | rfl | simp [encN, getElem!_pos, show i < dk.size by omega]), heq⟩
    · have hnot := h2 hlt
      go_wp2
      go_end0
      refine ⟨rfl, n, ?_⟩
      rw [reverseLoop, if_neg hnot] at heq
      rw [← Lib.reverseLoop_reverse, ← heq]
end Go.Proofs.YtkehpnobidendaaGreatDoor

namespace Go.Proofs.YtkehpnobidendaaGreatDoor
open Go.RowKit Go.Maps Go.Sort

theorem ncells_map (l : List Nat) : l.flatMap ncells = l.map encN := by
  induction l with
  | nil => rfl
  | cons a l ih => simp [ncells, encN, ih]
theorem Row.holds {w : World} {S : Nat → Prop} {e : TypeId} {g off cap : Nat} {l : List Nat} (h : Row w S e 1 (.slice (some ⟨g, off, none⟩) l.length cap) l.length (l.flatMap ncells)) : Holds encN w g off l.toArray := by
  intro j hj
  have hj' : j < l.length := by simpa using hj
  refine ⟨?_, h.freeAt _⟩
  rw [h.cellAt j (by omega), ncells_map, List.getElem?_map, List.getElem?_eq_getElem hj', getElem!_pos _ j hj]
  simp
theorem putCells_take {off : Nat} {d : List Nat} {c : Array Value} (h : off + d.length ≤ c.size) : ((putCells encN off d.toArray c).toList.drop off).take d.length = d.map encN := by
  apply List.ext_getElem?
  intro j
  by_cases hj : j < d.length
  · rw [List.getElem?_take_of_lt hj, List.getElem?_drop, List.getElem?_map, List.getElem?_eq_getElem hj]
    simp only [putCells, Array.getElem?_toList, Array.getElem?_mapIdx, List.size_toArray]
    rw [Array.getElem?_eq_getElem (by omega : off + j < c.size)]
    simp only [Option.map_some, Nat.le_add_right, true_and, Nat.add_lt_add_iff_left, hj, if_true, Nat.add_sub_cancel_left]
    rw [getElem!_pos _ j (by simpa using hj)]
    simp
  · rw [List.getElem?_eq_none (by rw [List.length_take]; omega), List.getElem?_eq_none (by simp; omega)]
theorem heap_putRow {w : World} {g off : Nat} {d : Array Nat} {c : Array Value} {e : TypeId} (hg : w.heap[g]? = some (.cells c e (0, 0))) : (putRow encN w g off d).heap[g]? = some (.cells (putCells encN off d c) e (0, 0)) := by
  simp only [putRow, mapBlock, Array.getElem?_modify, if_true, hg, Option.map_some, onCells]
theorem heap_putRow_ne {w : World} {g k off : Nat} {d : Array Nat} (hk : k ≠ g) : (putRow encN w g off d).heap[k]? = w.heap[k]? := by
  simp only [putRow, mapBlock, Array.getElem?_modify]
  rw [if_neg (fun e => hk e.symm)]
theorem preverse_row (w : World) (S : Nat → Prop) (v : Value) (l : List Nat) (h : Row w S 36 1 v l.length (l.flatMap ncells)) (h0 : 0 < l.length) (h1 : l.length ≤ 1700000000000) :
    Calls Tryz.prog 122 #[v] w fun e w' => e = .returned (.tuple #[]) ∧ Row w' S 36 1 v l.length (l.reverse.flatMap ncells) ∧ Fr (fun k => v.ownBlock = some k) w w' := by
  rcases h.2 with ⟨rfl, hn⟩ | ⟨g, off, cap, cur, rfl, hS, hg, hc, hm, hz, hx⟩
  · omega
  · have hh := h.holds
    have hc2 := preverse g off cap l.toArray w hh (by simp; omega)
    rw [List.size_toArray] at hc2
    refine hc2.mono ?_
    rintro e w' ⟨rfl, n, rfl⟩
    have hrev : (l.toArray).reverse = l.reverse.toArray := by simp
    rw [hrev]
    have hg' : (Sort.ahead w n).heap[g]? = some (.cells cur 36 (0, 0)) := hg
    refine ⟨rfl, ⟨by rw [ncells_map]; simp, .inr ⟨g, off, cap, _, rfl, hS, heap_putRow hg', hc, hm, ?_, ?_⟩⟩, ⟨rfl, rfl, rfl, ?_, fun k _ hk => ?_⟩⟩
    · simp only [putCells, Array.size_mapIdx]; exact hz
    · have := putCells_take (off := off) (d := l.reverse) (c := cur) (by simp; omega)
      rw [ncells_map]
      simpa using this
    · simp [putRow, mapBlock, Sort.ahead]
    · have hne : k ≠ g := fun e => hk (by rw [e]; rfl)
      exact heap_putRow_ne (w := Sort.ahead w n) hne
end Go.Proofs.YtkehpnobidendaaGreatDoor
