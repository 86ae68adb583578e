/- The program's New: a member, or none. -/
import Derived.Test.YtkehpnobidendaaGreatDoorM19
namespace Go.Proofs.YtkehpnobidendaaGreatDoor
open Go.RowKit Go.Maps

theorem pisMember (w : World) (a : Int) : Calls Tryz.prog 55 #[.int .i64 a] w fun e w' => e = .returned (.bool (decide (0 ≤ a ∧ a ≤ 3))) ∧ w' = w := by
  by_cases h0 : 0 ≤ a
  · by_cases h1 : a < 4
    · have e : decide (0 ≤ a ∧ a ≤ 3) = true := by simp; omega
      rw [e]
      go_enter Tryz.func55, Tryz.ntmps55
      go_wp2
      go_ret
      exact ⟨by simp_all, rfl⟩
    · have e : decide (0 ≤ a ∧ a ≤ 3) = false := by simp; omega
      rw [e]
      go_enter Tryz.func55, Tryz.ntmps55
      go_wp2
      go_ret
      exact ⟨by simp_all, rfl⟩
  · have e : decide (0 ≤ a ∧ a ≤ 3) = false := by simp; omega
    rw [e]
    go_enter Tryz.func55, Tryz.ntmps55
    go_wp2
    go_ret
    exact ⟨by simp, rfl⟩
set_option maxRecDepth 100000 in
set_option maxHeartbeats 1000000 in
theorem pnew_no (a b : Int) (h : newOk a b = false) (w : World) :
    Calls Tryz.prog 31 #[.int .i64 a, .int .i64 b] w fun e w' => e = .returned (.tuple #[.pointer none, .int .i64 1]) ∧ Below w.heap.size w w' := by
  have HM : Hid (∀ W, Calls Tryz.prog 55 #[.int .i64 a] W fun e w' => e = .returned (.bool (decide (0 ≤ a ∧ a ≤ 3))) ∧ w' = W) := fun W => pisMember W a
  by_cases ha : 0 ≤ a ∧ a ≤ 3
  · have hd : decide (0 ≤ a ∧ a ≤ 3) = true := by simp; exact ha
    rw [hd] at HM
    have h' : b < 1 ∨ 100 < b := by simp [newOk] at h; omega
    clear h hd
    rcases h' with h | h
    all_goals (
      go_enter Tryz.func31, Tryz.ntmps31
      go_wp2_with (go_at_call 55; refine (HM.out _).mono ?_; rintro e w1 ⟨rfl, rfl⟩)
      all_goals (go_ret2; exact ⟨rfl, Below.refl _ _⟩))
  · have hd : decide (0 ≤ a ∧ a ≤ 3) = false := by simp; omega
    rw [hd] at HM
    go_enter Tryz.func31, Tryz.ntmps31
    go_wp2_with (go_at_call 55; refine (HM.out _).mono ?_; rintro e w1 ⟨rfl, rfl⟩)
    go_ret2
    exact ⟨rfl, Below.refl _ _⟩
/-- A new member, its maps made ahead of it. -/
theorem pfresh (w w1 : World) (a b : Int) (ht : Tab w) (hb : Below w.heap.size w w1) (hs : w.heap.size + 1 ≤ w1.heap.size) (hm : IMap Tryz.prog 36 .u64 isBlk w1 w.heap.size 1 (putAt (fun _ => none) 0 Blk.zero.val)) :
    (∃ S, PMem (((w1.alloc (.map #[] 0)).alloc (.map #[] 0)).alloc (.cells (qcells (Mem.new a b) (.slice none 0 0) (.slice none 0 0) w.heap.size w1.heap.size (w1.heap.size + 1)) 82)) (w1.heap.size + 2) S (Mem.new a b) ∧ ∀ k, S k → w.heap.size ≤ k) ∧ Below w.heap.size w (((w1.alloc (.map #[] 0)).alloc (.map #[] 0)).alloc (.cells (qcells (Mem.new a b) (.slice none 0 0) (.slice none 0 0) w.heap.size w1.heap.size (w1.heap.size + 1)) 82)) := by
  have b1 := bnext hb (below_alloc w1 (.map #[] 0))
  have b2 := bnext b1 (below_alloc _ (.map #[] 0))
  have b3 := bnext b2 (below_alloc _ (.cells (qcells (Mem.new a b) (.slice none 0 0) (.slice none 0 0) w.heap.size w1.heap.size (w1.heap.size + 1)) 82))
  have z2 : (w1.alloc (.map #[] 0)).heap.size = w1.heap.size + 1 := by simp
  have z3 : ((w1.alloc (.map #[] 0)).alloc (.map #[] 0)).heap.size = w1.heap.size + 2 := by simp
  have z4 : (((w1.alloc (.map #[] 0)).alloc (.map #[] 0)).alloc (.cells (qcells (Mem.new a b) (.slice none 0 0) (.slice none 0 0) w.heap.size w1.heap.size (w1.heap.size + 1)) 82)).heap.size = w1.heap.size + 3 := by simp
  have hp := heap_alloc_new ((w1.alloc (.map #[] 0)).alloc (.map #[] 0)) (.cells (qcells (Mem.new a b) (.slice none 0 0) (.slice none 0 0) w.heap.size w1.heap.size (w1.heap.size + 1)) 82)
  rw [z3] at hp
  have hz : (fun k => w.heap.size ≤ k ∧ k < w1.heap.size + 3) 0 → False := fun h => by have := ht.pos; have := h.1; omega
  refine ⟨⟨fun k => w.heap.size ≤ k ∧ k < w1.heap.size + 3, ⟨⟨.slice none 0 0, .slice none 0 0, w.heap.size, w1.heap.size, w1.heap.size + 1, ?_, ?_⟩, ht.below b3, hz⟩, fun k hk => hk.1⟩, b3⟩
  · refine ⟨⟨by omega, by omega⟩, hp, fun i v e x hv he hx => ?_, fun i v hv hk => ?_, fun i j v u k hv _ _ hk => ?_, by simp [qE, qX], fun k hk => by rw [z4]; exact hk.2⟩
    · have hv' := List.mem_of_getElem? hv
      simp at hv'
      subst hv'
      have hx' := List.mem_of_getElem? hx
      simp [qX, Mem.new] at hx'
      subst hx'
      exact Row.nil _ _ _ _
    · have hv' := List.mem_of_getElem? hv
      simp at hv'
      subst hv'; cases hk
    · have hv' := List.mem_of_getElem? hv
      simp at hv'
      subst hv'; cases hk
  · have m1 : IMap Tryz.prog 36 .u64 isRoll (w1.alloc (.map #[] 0)) w1.heap.size 0 (fun _ => none) := IMap.made w1
    have m2 : IMap Tryz.prog 3 .i64 isRec ((w1.alloc (.map #[] 0)).alloc (.map #[] 0)) (w1.heap.size + 1) 0 (fun _ => none) := by have := IMap.made (P := Tryz.prog) (k := 3) (q := .i64) (sh := isRec) (w1.alloc (.map #[] 0)); rw [z2] at this; exact this
    refine ⟨⟨by omega, by omega⟩, ⟨by omega, by omega⟩, ⟨by omega, by omega⟩, by omega, by omega, by omega, ⟨1, by simp [Mem.new], ?_⟩, ⟨0, fun _ => none, Nat.zero_le _, ?_, ⟨fun n _ => rfl, fun n _ => ⟨rfl, rfl⟩⟩⟩, ⟨0, fun _ => none, Nat.zero_le _, ?_, ⟨fun v _ => rfl⟩⟩⟩
    · refine (((hm.below (below_alloc _ _)).below (below_alloc _ _)).below (below_alloc _ _)).fun (fun x hx => ?_)
      obtain ⟨n, rfl, _⟩ := nat_of_wf hx
      unfold bmap putAt Mem.block Mem.new
      simp only [Int.toNat_natCast, find]
      by_cases hn : n = 0
      · subst hn; simp
      · have h2 : ¬ (0 = n) := by omega
        simp [hn, h2]
    · exact (m1.below (below_alloc _ _)).below (below_alloc _ _)
    · exact m2.below (below_alloc _ _)
set_option maxRecDepth 100000 in
set_option maxHeartbeats 1000000 in
theorem pnew_ok (a b : Int) (h : newOk a b = true) (w : World) (ht : Tab w) :
    Calls Tryz.prog 31 #[.int .i64 a, .int .i64 b] w fun e w' => ∃ p, e = .returned (.tuple #[.pointer (some ⟨p, 0, none⟩), .int .i64 0]) ∧ (∃ S, PMem w' p S (Mem.new a b) ∧ ∀ k, S k → w.heap.size ≤ k) ∧ Below w.heap.size w w' := by
  simp only [newOk, decide_eq_true_eq] at h
  obtain ⟨h1, h2, h3, h4⟩ := h
  have hd : decide (0 ≤ a ∧ a ≤ 3) = true := by simp; exact ⟨h1, h2⟩
  have HM : Hid (∀ W, Calls Tryz.prog 55 #[.int .i64 a] W fun e w' => e = .returned (.bool true) ∧ w' = W) := fun W => by have := pisMember W a; rw [hd] at this; exact this
  have HT : Hid (Tab w) := ht
  clear ht hd
  have hmm := @run_makeMap Tryz.prog
  obtain ⟨w1, hr1, mb1, hf1⟩ := (IMap.made (P := Tryz.prog) (k := 36) (q := .u64) (sh := isBlk) w).store Tryz.underlying36 Tryz.underlying78 (by unfold maxLen; omega) 0 (wf_u64 (n := 0) (by omega)) Blk.zero.val ⟨Blk.zero, rfl⟩
  have hr2 : (Instr.mapUpdate 78 (.map (some w.heap.size)) (.int .u64 0) (.agg #[.int .i64 0, .int .i64 0, .int .u64 0, .int .u64 0, .int .u64 0, .int .u64 0, .int .u64 0, .string ⟨#[]⟩])).run Tryz.prog (w.alloc (.map #[] 0)) = .ok () w1 := hr1
  clear hr1
  have HM1 : Hid (IMap Tryz.prog 36 .u64 isBlk w1 w.heap.size 1 (putAt (fun _ => none) 0 Blk.zero.val)) := mb1
  have HF1 : Hid (Fr (fun k => k = w.heap.size) (w.alloc (.map #[] 0)) w1) := hf1
  clear mb1 hf1
  go_enter Tryz.func31, Tryz.ntmps31
  go_wp2_with (first | (go_at_call 55; refine (HM.out _).mono ?_; rintro e w2 ⟨rfl, hw2⟩; have hw3 := hw2.symm; subst hw3; clear hw2) | go_in)
  go_ret2
  have hs1 := HF1.out.size
  simp only [World.size_alloc] at hs1
  have hb : Below w.heap.size w w1 := by
    have f := (Fr.alloc (fun k => k = w.heap.size) w (.map #[] 0)).trans HF1.out (fun i hi => .inl hi)
    exact ⟨f.os, f.tape, f.output, f.size, fun k hk => f.block k hk (by omega)⟩
  exact ⟨_, rfl, pfresh w w1 a b HT.out hb hs1 HM1.out⟩
end Go.Proofs.YtkehpnobidendaaGreatDoor
