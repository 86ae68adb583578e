/- The law's look at Log (logs): both members' logs are one; the lists that came out are written over and kept. The law's look at Log (logs), walked. -/
import Derived.Test.YtkehpnobidendaaGreatDoorM15
import Derived.Test.YtkehpnobidendaaGreatDoorM19
import Derived.Test.YtkehpnobidendaaGreatDoorM24
import Derived.Test.YtkehpnobidendaaGreatDoorM25
namespace Go.Proofs.YtkehpnobidendaaGreatDoor
open Go.RowKit

/-- Lists of texts that are kept, each with its mark. -/
structure Laid (w : World) (T : Nat → Prop) (rs : List Value) (xs : List ByteArray) : Prop where
  len : rs.length = xs.length
  row : ∀ (i : Nat) (h : i < rs.length) (h' : i < xs.length), ∃ n, Row w T 9 1 rs[i] n (reps n [.string xs[i]])
theorem Laid.same {w w' : World} {T T' : Nat → Prop} {rs : List Value} {xs : List ByteArray} (h : Laid w T rs xs) (hb : ∀ k, T k → k < w.heap.size → w'.heap[k]? = w.heap[k]? ∧ T' k) : Laid w' T' rs xs := by
  refine ⟨h.len, fun i h1 h2 => ?_⟩
  obtain ⟨n, hr⟩ := h.row i h1 h2
  exact ⟨n, hr.same hb⟩
theorem Laid.both {w : World} {T : Nat → Prop} {rs rs2 : List Value} {xs xs2 : List ByteArray} (h : Laid w T rs xs) (h2 : Laid w T rs2 xs2) : Laid w T (rs ++ rs2) (xs ++ xs2) := by
  have hl := h.len
  refine ⟨by simp [hl, h2.len], fun i a1 a2 => ?_⟩
  by_cases hi : i < rs.length
  · obtain ⟨n, hr⟩ := h.row i hi (by omega)
    exact ⟨n, by rw [List.getElem_append_left hi, List.getElem_append_left (by omega)]; exact hr⟩
  · obtain ⟨n, hr⟩ := h2.row (i - rs.length) (by simp at a1; omega) (by simp at a2; omega)
    refine ⟨n, ?_⟩
    rw [List.getElem_append_right (by omega), List.getElem_append_right (by omega)]
    have e : i - xs.length = i - rs.length := by omega
    simp only [e]
    exact hr
theorem Laid.of_marks {w : World} {T : Nat → Prop} {rs : List Value} {x : ByteArray} {cur : Value} (h : ∀ r ∈ rs, Marked w T 9 [.string x] r cur) : Laid w T rs (List.replicate rs.length x) := by
  refine ⟨by simp, fun i h1 h2 => ?_⟩
  obtain ⟨j, hr, _⟩ := h rs[i] (List.getElem_mem _)
  exact ⟨j, by simpa using hr⟩
/-- The law's record behind a look at a log. -/
def Law.addLog (L : Law) (rs : List Value) (xs : List ByteArray) : Law := { L with texts := L.texts ++ rs, tm := L.tm ++ xs, count := L.count + 2 }
/-- What a look at a log leaves. -/
structure Looked (w w' : World) (q : Nat) (S : Nat → Prop) (L : Law) : Prop where
  ex : ∃ S' T rs xs, LMem w' q S' (L.addLog rs xs) ∧ rs.length = 8 ∧ Grow S w S' ∧ Fr S w w' ∧ Laid w' T rs xs ∧ ∀ j, T j → w.heap.size ≤ j ∧ ¬ S' j ∧ j < w'.heap.size
theorem str_self (c : ByteArray) : (c.toList == c.toList) = true := by simp
end Go.Proofs.YtkehpnobidendaaGreatDoor

namespace Go.Proofs.YtkehpnobidendaaGreatDoor
open Go.RowKit

set_option maxRecDepth 100000 in
set_option maxHeartbeats 2000000 in
theorem llogs (w : World) (q pp rp : Nat) (S SP SR : Nat → Prop) (L : Law) (m : Mem) (B : Nat) (hL : LMem w q S L) (hP : PMem w pp SP m) (hR : RMem w rp SR B m []) (hn : m.log.length ≤ 1700000000000) (hlu : ∀ n ∈ m.log, n < 18446744073709551616) (hc0 : 0 ≤ L.count) (hc1 : L.count ≤ 9000000000000) (ht : L.texts.length ≤ 5700000000000) (hm : L.tm.length ≤ 5700000000000) :
    Calls Tryz.prog 17 #[.pointer (some ⟨q, 0, none⟩), .agg #[.pointer (some ⟨pp, 0, none⟩), .pointer (some ⟨rp, 0, none⟩)]] w fun e w' => e = .returned (.bool true) ∧ Looked w w' q S L := by
  have HL : Hid (LMem w q S L) := hL
  have HPL : Hid (∀ W, Below w.heap.size w W → Calls Tryz.prog 33 #[.pointer (some ⟨pp, 0, none⟩)] W fun e w' => ∃ v, e = .returned v ∧ Row w' (fun k => W.heap.size ≤ k) 9 1 v m.commands.length (m.commands.flatMap scells) ∧ Below W.heap.size W w') := fun W hW => plog W pp SP m (hP.below hW) hn hlu
  have HRL : Hid (∀ W, Below w.heap.size w W → Calls Tryz.prog 34 #[.pointer (some ⟨rp, 0, none⟩)] W fun e w' => ∃ v, e = .returned v ∧ Row w' (fun k => W.heap.size ≤ k) 9 1 v m.commands.length (m.commands.flatMap scells) ∧ Below W.heap.size W w') := fun W hW => rlog W rp SR m B [] (hR.below hW) hn
  have hcl : m.commands.length ≤ 1700000000000 := by have : m.commands.length = m.log.length := by simp [Mem.commands]
                                                     omega
  have hown := hL.own
  have HOWN : Hid (∀ k, S k → k < w.heap.size) := hown
  clear hL hP hR hlu hn hown
  generalize m.commands = cs at *
  have hb1 : Below w.heap.size w (w.alloc (.cells #[.pointer (some ⟨pp, 0, none⟩), .pointer (some ⟨rp, 0, none⟩)] 50)) := below_alloc _ _
  have x1 := heap_alloc_new w (.cells #[.pointer (some ⟨pp, 0, none⟩), .pointer (some ⟨rp, 0, none⟩)] 50)
  obtain ⟨W1, hW1⟩ : ∃ x, x = w.alloc (.cells #[.pointer (some ⟨pp, 0, none⟩), .pointer (some ⟨rp, 0, none⟩)] 50) := ⟨_, rfl⟩
  rw [← hW1] at hb1 x1
  have HX : Hid (∀ W, Below W1.heap.size W1 W → W.cell? ⟨w.heap.size, 0, none⟩ = some (.pointer (some ⟨pp, 0, none⟩)) ∧ W.cell? ⟨w.heap.size, 1, none⟩ = some (.pointer (some ⟨rp, 0, none⟩))) := fun W hW => by
    have := (hW.block w.heap.size (lt_at x1)).trans x1
    exact ⟨cell_at this 0, cell_at this 1⟩
  have HB1 : Hid (Below w.heap.size w W1) := hb1
  have d0 := (HX.out W1 (Below.refl _ _)).1
  clear hb1 x1
  go_enter Tryz.func17, Tryz.ntmps17
  go_upto_region 1 with fail
  rw [← hW1]
  clear hW1
  go_upto_region 2 with (go_at_call 33; refine (HPL.out W1 HB1.out).mono ?_; rintro e w2 ⟨v1, rfl, r1, b2⟩)
  have HB2 : Hid (Below W1.heap.size W1 w2) := b2
  have d2 := (HX.out w2 b2).1
  obtain ⟨a1, c1, rfl⟩ := r1.isSlice
  have R1 : Hid (Row w2 (fun k => W1.heap.size ≤ k) 9 1 (.slice a1 cs.length c1) cs.length (cs.flatMap scells)) := r1
  clear d0 r1 b2
  go_upto_region 3 with (go_at_call 33; refine (HPL.out w2 (bnext HB1.out HB2.out)).mono ?_; rintro e w3 ⟨v2, rfl, r2, b3⟩)
  have HB3 : Hid (Below w2.heap.size w2 w3) := b3
  have d3 := (HX.out w3 (bnext HB2.out b3)).2
  obtain ⟨a2, c2, rfl⟩ := r2.isSlice
  have R2 : Hid (Row w3 (fun k => w2.heap.size ≤ k) 9 1 (.slice a2 cs.length c2) cs.length (cs.flatMap scells)) := r2
  clear d2 r2 b3
  go_upto_region 4 with (go_at_call 34; refine (HRL.out w3 (bnext (bnext HB1.out HB2.out) HB3.out)).mono ?_; rintro e w4 ⟨v3, rfl, r3, b4⟩)
  have HB4 : Hid (Below w3.heap.size w3 w4) := b4
  obtain ⟨a3, c3, rfl⟩ := r3.isSlice
  have R3 : Hid (Row w4 (fun k => w3.heap.size ≤ k) 9 1 (.slice a3 cs.length c3) cs.length (cs.flatMap scells)) := r3
  clear d3 r3 b4 HPL HRL
  go_wp2
  have HQ1 : Hid (Row w4 (fun k => W1.heap.size ≤ k) 9 1 (.slice a1 cs.length c1) cs.length (cs.flatMap scells)) := (R1.out.below HB3.out).below HB4.out
  have HQ2 : Hid (Row w4 (fun k => w2.heap.size ≤ k) 9 1 (.slice a2 cs.length c2) cs.length (cs.flatMap scells)) := R2.out.below HB4.out
  have HB : Hid (Below W1.heap.size W1 w4) := bnext (bnext HB2.out HB3.out) HB4.out
  have HSZ : Hid (W1.heap.size ≤ w2.heap.size ∧ w2.heap.size ≤ w3.heap.size ∧ w3.heap.size ≤ w4.heap.size ∧ (∀ k, (Value.slice a1 cs.length c1).ownBlock = some k → k < w2.heap.size) ∧ (∀ k, (Value.slice a2 cs.length c2).ownBlock = some k → k < w3.heap.size)) := ⟨HB2.out.size, HB3.out.size, HB4.out.size, fun k hk => (R1.out.ownS hk).2, fun k hk => (R2.out.ownS hk).2⟩
  clear R1 R2 HB2 HB3 HB4
  go_loopw [8, 9] (fun s8 s9 wr => ∃ k : Nat, k ≤ cs.length ∧ s8 = .bool true ∧ s9 = .int .i64 k ∧ Hid (Below w4.heap.size w4 wr)) (fun _ i _ => cs.length - (intOf i).toNat)
  case atStart => exact ⟨0, by omega, rfl, rfl, Below.refl _ _⟩
  case round =>
    obtain ⟨k, hk, rfl, rfl, hb⟩ := hrel
    by_cases hlt : k < cs.length
    · obtain ⟨g1, o1, rfl, _, hg1, hcp1⟩ := HQ1.out.place (by omega)
      obtain ⟨g2, o2, rfl, _, hg2, hcp2⟩ := HQ2.out.place (by omega)
      obtain ⟨g3, o3, rfl, _, hg3, hcp3⟩ := R3.out.place (by omega)
      have q1 : wr.cell? ⟨g1, o1 + k, none⟩ = some (.string cs[k]) := (hb.out.cell (p := ⟨g1, o1 + k, none⟩) hg1).trans (by have := HQ1.out.elem scells_len k 0 hlt (by omega); simpa [scells] using this)
      have q2 : wr.cell? ⟨g2, o2 + k, none⟩ = some (.string cs[k]) := (hb.out.cell (p := ⟨g2, o2 + k, none⟩) hg2).trans (by have := HQ2.out.elem scells_len k 0 hlt (by omega); simpa [scells] using this)
      have q3 : wr.cell? ⟨g3, o3 + k, none⟩ = some (.string cs[k]) := (hb.out.cell (p := ⟨g3, o3 + k, none⟩) hg3).trans (by have := R3.out.elem scells_len k 0 hlt (by omega); simpa [scells] using this)
      have i1 : (0 : Int) ≤ (k : Int) := by omega
      have i2 : (k : Int) < (cs.length : Int) := by omega
      generalize cs[k] = ck at q1 q2 q3
      go_wp2
      go_quiet (fail)
      go_wp2
      go_roundw
      case rel => exact ⟨k + 1, by omega, by first | rfl | simp, by go_num, below_drewN hb.out _⟩
      case measure => simp [intOf]; omega
    · have hkl : k = cs.length := by omega
      subst hkl
      have hB5 := bnext (bnext HB1.out HB.out) hb.out
      have HL5 : Hid (LMem wr q S L) := HL.out.below hB5
      have V1 : Hid (Row wr (fun k => W1.heap.size ≤ k ∧ k < w2.heap.size) 9 1 (.slice a1 cs.length c1) cs.length (cs.flatMap scells)) := (HQ1.out.below hb.out).reown (fun k hk => ⟨(HQ1.out.ownS hk).1, HSZ.out.2.2.2.1 k hk⟩)
      have V2 : Hid (Row wr (fun k => w2.heap.size ≤ k ∧ k < w3.heap.size) 9 1 (.slice a2 cs.length c2) cs.length (cs.flatMap scells)) := (HQ2.out.below hb.out).reown (fun k hk => ⟨(HQ2.out.ownS hk).1, HSZ.out.2.2.2.2 k hk⟩)
      have HB5 : Hid (Below w.heap.size w wr) := hB5
      have V1own : ∀ k, (Value.slice a1 cs.length c1).ownBlock = some k → W1.heap.size ≤ k := fun k hk => (HQ1.out.ownS hk).1
      have HZ : Hid (w.heap.size ≤ W1.heap.size ∧ w4.heap.size ≤ wr.heap.size) := ⟨HB1.out.size, hb.out.size⟩
      clear hB5 HQ1 HQ2 R3 hb HB HX HL
      have HS1 : Hid (∀ k, (W1.heap.size ≤ k ∧ k < w2.heap.size) → ¬ S k) := fun k hk hS => by have := HOWN.out k hS; have := HZ.out.1; omega
      go_wp2_with (first
        | (go_at_call 35; refine (lstrings wr q S (fun k => W1.heap.size ≤ k ∧ k < w2.heap.size) L HL5.out (.slice a1 cs.length c1) cs.length (cs.flatMap scells) V1.out HS1.out hcl hc0 (by omega) (by omega) (by omega)).mono ?_; rintro e w6 ⟨rfl, x1, cur1, hI1⟩; clear V1; obtain ⟨S1, T1, rs1, hm1, hr1, hg1, hf1, _, hk1, ht1⟩ := hI1.ex; have M1 : Hid (LMem w6 q S1 (Law.addT { L with count := L.count + 1 } rs1 x1)) := hm1; have V2' : Hid (Row w6 (fun k => w2.heap.size ≤ k ∧ k < w3.heap.size) 9 1 (.slice a2 cs.length c2) cs.length (cs.flatMap scells)) := V2.out.same (fun k hk hl => ⟨hf1.block k hl (fun h => h.elim (fun h => by have h1 := HOWN.out k h; have h2 := HZ.out.1; have h3 := HSZ.out.1; omega) (fun h => by have h1 := HSZ.out.2.2.2.1 k h; omega)), hk⟩); have G1 : Hid (rs1.length = 4 ∧ Grow S wr S1 ∧ Fr (fun j => S j ∨ (Value.slice a1 cs.length c1).ownBlock = some j) wr w6 ∧ (∀ r ∈ rs1, Marked w6 T1 9 [.string x1] r cur1) ∧ (∀ j, T1 j → ((Value.slice a1 cs.length c1).ownBlock = some j ∨ wr.heap.size ≤ j) ∧ ¬ S1 j ∧ j < w6.heap.size)) := ⟨hr1, hg1, hf1, hk1, ht1⟩; have HS2 : Hid (∀ k, (w2.heap.size ≤ k ∧ k < w3.heap.size) → ¬ S1 k) := (fun k hk hS => (hg1 k hS).elim (fun h => by have h1 := HOWN.out k h; have h2 := HZ.out.1; have h3 := HSZ.out.1; omega) (fun h => by have h1 := HSZ.out.2.2.1; have h2 := HZ.out.2; omega)); have hl1 : (Law.addT { L with count := L.count + 1 } rs1 x1).texts.length ≤ 5800000000000 := (by simp [Law.addT]; omega); have hl2 : (Law.addT { L with count := L.count + 1 } rs1 x1).tm.length ≤ 5800000000000 := (by simp [Law.addT]; omega); clear hI1 hm1 hr1 hg1 hf1 hk1 ht1 V2)
        | (go_at_call 35; refine (lstrings w6 q S1 (fun k => w2.heap.size ≤ k ∧ k < w3.heap.size) (Law.addT { L with count := L.count + 1 } rs1 x1) M1.out (.slice a2 cs.length c2) cs.length (cs.flatMap scells) V2'.out HS2.out hcl (by show 0 ≤ L.count + 1; omega) (by show L.count + 1 ≤ 10000000000000; omega) hl1 hl2).mono ?_; rintro e w7 ⟨rfl, x2, cur2, hI2⟩))
      go_ret
      obtain ⟨S2, T2, rs2, hm2, hr2, hg2, hf2, _, hk2, ht2⟩ := hI2.ex
      obtain ⟨hr1, hg1, hf1, hk1, ht1⟩ := G1.out
      have z1 := HZ.out
      have z2 := HSZ.out
      have s6 := hf1.size
      have s7 := hf2.size
      have s5 := HB5.out.size
      have v2lt : ∀ k, (Value.slice a2 cs.length c2).ownBlock = some k → w2.heap.size ≤ k ∧ k < w3.heap.size := fun k hk => (V2'.out.ownS hk).1
      have hT1 : ∀ j, T1 j → ¬ (S1 j ∨ (Value.slice a2 cs.length c2).ownBlock = some j) := fun j hj h => by
        have h1 := ht1 j hj
        rcases h with h | h
        · exact h1.2.1 h
        · have h2 := v2lt j h
          rcases h1.1 with h3 | h3
          · have := z2.2.2.2.1 j h3; omega
          · omega
      refine ⟨by simp, S2, (fun j => T1 j ∨ T2 j), rs1 ++ rs2, List.replicate rs1.length x1 ++ List.replicate rs2.length x2, ?_, by simp [hr1, hr2], ?_, ?_, Laid.both ?_ ?_, fun j hj => ?_⟩
      · have e : Law.addT { Law.addT { L with count := L.count + 1 } rs1 x1 with count := (Law.addT { L with count := L.count + 1 } rs1 x1).count + 1 } rs2 x2 = L.addLog (rs1 ++ rs2) (List.replicate rs1.length x1 ++ List.replicate rs2.length x2) := by
          simp [Law.addT, Law.addLog, List.append_assoc, Int.add_assoc]
        rw [← e]
        exact hm2
      · exact (fun k hk => (hg2 k hk).elim (fun h => (hg1 k h).elim .inl (fun h => .inr (by omega))) (fun h => .inr (by omega)))
      · refine ((Fr.of_below (S := S) HB5.out).trans hf1 (fun i hi => hi.elim .inl (fun h => .inr ?_))).trans hf2 (fun i hi => hi.elim (fun h => (hg1 i h).elim .inl (fun h => .inr (by omega))) (fun h => .inr (by have := v2lt i h; omega)))
        exact Nat.le_trans z1.1 (V1own i h)
      · exact (Laid.of_marks hk1).same (fun k hk hl => ⟨hf2.block k hl (hT1 k hk), .inl hk⟩)
      · exact (Laid.of_marks hk2).same (fun k hk _ => ⟨rfl, .inr hk⟩)
      · rcases hj with hj | hj
        · have h1 := ht1 j hj
          refine ⟨?_, fun h => (hg2 j h).elim h1.2.1 (fun h => by omega), by omega⟩
          rcases h1.1 with h3 | h3
          · exact Nat.le_trans z1.1 (V1own j h3)
          · omega
        · have h1 := ht2 j hj
          refine ⟨?_, h1.2.1, h1.2.2⟩
          rcases h1.1 with h3 | h3
          · have := v2lt j h3; omega
          · omega
end Go.Proofs.YtkehpnobidendaaGreatDoor
