/- The law's look at Log (logs): both members' logs are one; the lists that came out are written over and kept. The law's look at Log (logs), walked. The law's whole situation: its record, the lists that are kept, the members of both sides, all apart in memory (SitA); what a step makes of it. The law's plain at New: both sides answer alike; a member more is kept. The law's plain at New, walked. The law's steps on a member: the walk up to which of them it is. -/
import Derived.Test.YtkehpnobidendaaGreatDoorM16
import Derived.Test.YtkehpnobidendaaGreatDoorM21
import Derived.Test.YtkehpnobidendaaGreatDoorM26
import Derived.Test.YtkehpnobidendaaGreatDoorM27
import Derived.Test.YtkehpnobidendaaGreatDoorM06
namespace Go.Proofs.YtkehpnobidendaaGreatDoor
open Go.RowKit

/-- Lists of texts that are kept, each with its mark. -/
structure Laid (w : World) (T : Nat → Prop) (rs : List Value) (xs : List ByteArray) : Prop where
  len : rs.length = xs.length
  row : ∀ (i : Nat) (h : i < rs.length) (h' : i < xs.length), ∃ n, Row w T 9 1 rs[i] n (reps n [.string xs[i]])
theorem Laid.same {w w' : World} {T T' : Nat → Prop} {rs : List Value} {xs : List ByteArray} (h : Laid w T rs xs) (hb : ∀ k, T k → k < w.heap.size → w'.heap[k]? = w.heap[k]? ∧ T' k) : Laid w' T' rs xs := by
  refine ⟨h.len, fun i h1 h2 => ?_⟩
  obtain ⟨n, hr⟩ := h.row i h1 h2
  exact ⟨n, hr.same hb⟩
theorem Laid.both {w : World} {T : Nat → Prop} {rs rs2 : List Value} {xs xs2 : List ByteArray} (h : Laid w T rs xs) (h2 : Laid w T rs2 xs2) : Laid w T (rs ++ rs2) (xs ++ xs2) := by
  have hl := h.len
  refine ⟨by simp [hl, h2.len], fun i a1 a2 => ?_⟩
  by_cases hi : i < rs.length
  · obtain ⟨n, hr⟩ := h.row i hi (by omega)
    exact ⟨n, by rw [List.getElem_append_left hi, List.getElem_append_left (by omega)]; exact hr⟩
  · obtain ⟨n, hr⟩ := h2.row (i - rs.length) (by simp at a1; omega) (by simp at a2; omega)
    refine ⟨n, ?_⟩
    rw [List.getElem_append_right (by omega), List.getElem_append_right (by omega)]
    have e : i - xs.length = i - rs.length := by omega
    simp only [e]
    exact hr
theorem Laid.of_marks {w : World} {T : Nat → Prop} {rs : List Value} {x : ByteArray} {cur : Value} (h : ∀ r ∈ rs, Marked w T 9 [.string x] r cur) : Laid w T rs (List.replicate rs.length x) := by
  refine ⟨by simp, fun i h1 h2 => ?_⟩
  obtain ⟨j, hr, _⟩ := h rs[i] (List.getElem_mem _)
  exact ⟨j, by simpa using hr⟩
/-- The law's record behind a look at a log. -/
def Law.addLog (L : Law) (rs : List Value) (xs : List ByteArray) : Law := { L with texts := L.texts ++ rs, tm := L.tm ++ xs, count := L.count + 2 }
/-- What a look at a log leaves. -/
structure Looked (w w' : World) (q : Nat) (S : Nat → Prop) (L : Law) : Prop where
  ex : ∃ S' T rs xs, LMem w' q S' (L.addLog rs xs) ∧ rs.length = 8 ∧ Grow S w S' ∧ Fr S w w' ∧ Laid w' T rs xs ∧ ∀ j, T j → w.heap.size ≤ j ∧ ¬ S' j ∧ j < w'.heap.size
theorem str_self (c : ByteArray) : (c.toList == c.toList) = true := by simp
end Go.Proofs.YtkehpnobidendaaGreatDoor

namespace Go.Proofs.YtkehpnobidendaaGreatDoor
open Go.RowKit

set_option maxRecDepth 100000 in
set_option maxHeartbeats 2000000 in
theorem llogs (w : World) (q pp rp : Nat) (S SP SR : Nat → Prop) (L : Law) (m : Mem) (B : Nat) (hL : LMem w q S L) (hP : PMem w pp SP m) (hR : RMem w rp SR B m []) (hn : m.log.length ≤ 1700000000000) (hlu : ∀ n ∈ m.log, n < 18446744073709551616) (hc0 : 0 ≤ L.count) (hc1 : L.count ≤ 9000000000000) (ht : L.texts.length ≤ 5700000000000) (hm : L.tm.length ≤ 5700000000000) :
    Calls Tryz.prog 17 #[.pointer (some ⟨q, 0, none⟩), .agg #[.pointer (some ⟨pp, 0, none⟩), .pointer (some ⟨rp, 0, none⟩)]] w fun e w' => e = .returned (.bool true) ∧ Looked w w' q S L := by
  have HL : Hid (LMem w q S L) := hL
  have HPL : Hid (∀ W, Below w.heap.size w W → Calls Tryz.prog 33 #[.pointer (some ⟨pp, 0, none⟩)] W fun e w' => ∃ v, e = .returned v ∧ Row w' (fun k => W.heap.size ≤ k) 9 1 v m.commands.length (m.commands.flatMap scells) ∧ Below W.heap.size W w') := fun W hW => plog W pp SP m (hP.below hW) hn hlu
  have HRL : Hid (∀ W, Below w.heap.size w W → Calls Tryz.prog 34 #[.pointer (some ⟨rp, 0, none⟩)] W fun e w' => ∃ v, e = .returned v ∧ Row w' (fun k => W.heap.size ≤ k) 9 1 v m.commands.length (m.commands.flatMap scells) ∧ Below W.heap.size W w') := fun W hW => rlog W rp SR m B [] (hR.below hW) hn
  have hcl : m.commands.length ≤ 1700000000000 := by have : m.commands.length = m.log.length := by simp [Mem.commands]
                                                     omega
  have hown := hL.own
  have HOWN : Hid (∀ k, S k → k < w.heap.size) := hown
  clear hL hP hR hlu hn hown
  generalize m.commands = cs at *
  have hb1 : Below w.heap.size w (w.alloc (.cells #[.pointer (some ⟨pp, 0, none⟩), .pointer (some ⟨rp, 0, none⟩)] 50)) := below_alloc _ _
  have x1 := heap_alloc_new w (.cells #[.pointer (some ⟨pp, 0, none⟩), .pointer (some ⟨rp, 0, none⟩)] 50)
  obtain ⟨W1, hW1⟩ : ∃ x, x = w.alloc (.cells #[.pointer (some ⟨pp, 0, none⟩), .pointer (some ⟨rp, 0, none⟩)] 50) := ⟨_, rfl⟩
  rw [← hW1] at hb1 x1
  have HX : Hid (∀ W, Below W1.heap.size W1 W → W.cell? ⟨w.heap.size, 0, none⟩ = some (.pointer (some ⟨pp, 0, none⟩)) ∧ W.cell? ⟨w.heap.size, 1, none⟩ = some (.pointer (some ⟨rp, 0, none⟩))) := fun W hW => by
    have := (hW.block w.heap.size (lt_at x1)).trans x1
    exact ⟨cell_at this 0, cell_at this 1⟩
  have HB1 : Hid (Below w.heap.size w W1) := hb1
  have d0 := (HX.out W1 (Below.refl _ _)).1
  clear hb1 x1
  go_enter Tryz.func17, Tryz.ntmps17
  go_upto_region 1 with fail
  rw [← hW1]
  clear hW1
  go_upto_region 2 with (go_at_call 33; refine (HPL.out W1 HB1.out).mono ?_; rintro e w2 ⟨v1, rfl, r1, b2⟩)
  have HB2 : Hid (Below W1.heap.size W1 w2) := b2
  have d2 := (HX.out w2 b2).1
  obtain ⟨a1, c1, rfl⟩ := r1.isSlice
  have R1 : Hid (Row w2 (fun k => W1.heap.size ≤ k) 9 1 (.slice a1 cs.length c1) cs.length (cs.flatMap scells)) := r1
  clear d0 r1 b2
  go_upto_region 3 with (go_at_call 33; refine (HPL.out w2 (bnext HB1.out HB2.out)).mono ?_; rintro e w3 ⟨v2, rfl, r2, b3⟩)
  have HB3 : Hid (Below w2.heap.size w2 w3) := b3
  have d3 := (HX.out w3 (bnext HB2.out b3)).2
  obtain ⟨a2, c2, rfl⟩ := r2.isSlice
  have R2 : Hid (Row w3 (fun k => w2.heap.size ≤ k) 9 1 (.slice a2 cs.length c2) cs.length (cs.flatMap scells)) := r2
  clear d2 r2 b3
  go_upto_region 4 with (go_at_call 34; refine (HRL.out w3 (bnext (bnext HB1.out HB2.out) HB3.out)).mono ?_; rintro e w4 ⟨v3, rfl, r3, b4⟩)
  have HB4 : Hid (Below w3.heap.size w3 w4) := b4
  obtain ⟨a3, c3, rfl⟩ := r3.isSlice
  have R3 : Hid (Row w4 (fun k => w3.heap.size ≤ k) 9 1 (.slice a3 cs.length c3) cs.length (cs.flatMap scells)) := r3
  clear d3 r3 b4 HPL HRL
  go_wp2
  have HQ1 : Hid (Row w4 (fun k => W1.heap.size ≤ k) 9 1 (.slice a1 cs.length c1) cs.length (cs.flatMap scells)) := (R1.out.below HB3.out).below HB4.out
  have HQ2 : Hid (Row w4 (fun k => w2.heap.size ≤ k) 9 1 (.slice a2 cs.length c2) cs.length (cs.flatMap scells)) := R2.out.below HB4.out
  have HB : Hid (Below W1.heap.size W1 w4) := bnext (bnext HB2.out HB3.out) HB4.out
  have HSZ : Hid (W1.heap.size ≤ w2.heap.size ∧ w2.heap.size ≤ w3.heap.size ∧ w3.heap.size ≤ w4.heap.size ∧ (∀ k, (Value.slice a1 cs.length c1).ownBlock = some k → k < w2.heap.size) ∧ (∀ k, (Value.slice a2 cs.length c2).ownBlock = some k → k < w3.heap.size)) := ⟨HB2.out.size, HB3.out.size, HB4.out.size, fun k hk => (R1.out.ownS hk).2, fun k hk => (R2.out.ownS hk).2⟩
  clear R1 R2 HB2 HB3 HB4
  go_loopw [8, 9] (fun s8 s9 wr => ∃ k : Nat, k ≤ cs.length ∧ s8 = .bool true ∧ s9 = .int .i64 k ∧ Hid (Below w4.heap.size w4 wr)) (fun _ i _ => cs.length - (intOf i).toNat)
  case atStart => exact ⟨0, by omega, rfl, rfl, Below.refl _ _⟩
  case round =>
    obtain ⟨k, hk, rfl, rfl, hb⟩ := hrel
    by_cases hlt : k < cs.length
    · obtain ⟨g1, o1, rfl, _, hg1, hcp1⟩ := HQ1.out.place (by omega)
      obtain ⟨g2, o2, rfl, _, hg2, hcp2⟩ := HQ2.out.place (by omega)
      obtain ⟨g3, o3, rfl, _, hg3, hcp3⟩ := R3.out.place (by omega)
      have q1 : wr.cell? ⟨g1, o1 + k, none⟩ = some (.string cs[k]) := (hb.out.cell (p := ⟨g1, o1 + k, none⟩) hg1).trans (by have := HQ1.out.elem scells_len k 0 hlt (by omega); simpa [scells] using this)
      have q2 : wr.cell? ⟨g2, o2 + k, none⟩ = some (.string cs[k]) := (hb.out.cell (p := ⟨g2, o2 + k, none⟩) hg2).trans (by have := HQ2.out.elem scells_len k 0 hlt (by omega); simpa [scells] using this)
      have q3 : wr.cell? ⟨g3, o3 + k, none⟩ = some (.string cs[k]) := (hb.out.cell (p := ⟨g3, o3 + k, none⟩) hg3).trans (by have := R3.out.elem scells_len k 0 hlt (by omega); simpa [scells] using this)
      have i1 : (0 : Int) ≤ (k : Int) := by omega
      have i2 : (k : Int) < (cs.length : Int) := by omega
      generalize cs[k] = ck at q1 q2 q3
      go_wp2
      go_quiet (fail)
      go_wp2
      go_roundw
      case rel => exact ⟨k + 1, by omega, by first | rfl | simp, by go_num, below_drewN hb.out _⟩
      case measure => simp [intOf]; omega
    · have hkl : k = cs.length := by omega
      subst hkl
      have hB5 := bnext (bnext HB1.out HB.out) hb.out
      have HL5 : Hid (LMem wr q S L) := HL.out.below hB5
      have V1 : Hid (Row wr (fun k => W1.heap.size ≤ k ∧ k < w2.heap.size) 9 1 (.slice a1 cs.length c1) cs.length (cs.flatMap scells)) := (HQ1.out.below hb.out).reown (fun k hk => ⟨(HQ1.out.ownS hk).1, HSZ.out.2.2.2.1 k hk⟩)
      have V2 : Hid (Row wr (fun k => w2.heap.size ≤ k ∧ k < w3.heap.size) 9 1 (.slice a2 cs.length c2) cs.length (cs.flatMap scells)) := (HQ2.out.below hb.out).reown (fun k hk => ⟨(HQ2.out.ownS hk).1, HSZ.out.2.2.2.2 k hk⟩)
      have HB5 : Hid (Below w.heap.size w wr) := hB5
      have V1own : ∀ k, (Value.slice a1 cs.length c1).ownBlock = some k → W1.heap.size ≤ k := fun k hk => (HQ1.out.ownS hk).1
      have HZ : Hid (w.heap.size ≤ W1.heap.size ∧ w4.heap.size ≤ wr.heap.size) := ⟨HB1.out.size, hb.out.size⟩
      clear hB5 HQ1 HQ2 R3 hb HB HX HL
      have HS1 : Hid (∀ k, (W1.heap.size ≤ k ∧ k < w2.heap.size) → ¬ S k) := fun k hk hS => by have := HOWN.out k hS; have := HZ.out.1; omega
      go_wp2_with (first
        | (go_at_call 35; refine (lstrings wr q S (fun k => W1.heap.size ≤ k ∧ k < w2.heap.size) L HL5.out (.slice a1 cs.length c1) cs.length (cs.flatMap scells) V1.out HS1.out hcl hc0 (by omega) (by omega) (by omega)).mono ?_; rintro e w6 ⟨rfl, x1, cur1, hI1⟩; clear V1; obtain ⟨S1, T1, rs1, hm1, hr1, hg1, hf1, _, hk1, ht1⟩ := hI1.ex; have M1 : Hid (LMem w6 q S1 (Law.addT { L with count := L.count + 1 } rs1 x1)) := hm1; have V2' : Hid (Row w6 (fun k => w2.heap.size ≤ k ∧ k < w3.heap.size) 9 1 (.slice a2 cs.length c2) cs.length (cs.flatMap scells)) := V2.out.same (fun k hk hl => ⟨hf1.block k hl (fun h => h.elim (fun h => by have h1 := HOWN.out k h; have h2 := HZ.out.1; have h3 := HSZ.out.1; omega) (fun h => by have h1 := HSZ.out.2.2.2.1 k h; omega)), hk⟩); have G1 : Hid (rs1.length = 4 ∧ Grow S wr S1 ∧ Fr (fun j => S j ∨ (Value.slice a1 cs.length c1).ownBlock = some j) wr w6 ∧ (∀ r ∈ rs1, Marked w6 T1 9 [.string x1] r cur1) ∧ (∀ j, T1 j → ((Value.slice a1 cs.length c1).ownBlock = some j ∨ wr.heap.size ≤ j) ∧ ¬ S1 j ∧ j < w6.heap.size)) := ⟨hr1, hg1, hf1, hk1, ht1⟩; have HS2 : Hid (∀ k, (w2.heap.size ≤ k ∧ k < w3.heap.size) → ¬ S1 k) := (fun k hk hS => (hg1 k hS).elim (fun h => by have h1 := HOWN.out k h; have h2 := HZ.out.1; have h3 := HSZ.out.1; omega) (fun h => by have h1 := HSZ.out.2.2.1; have h2 := HZ.out.2; omega)); have hl1 : (Law.addT { L with count := L.count + 1 } rs1 x1).texts.length ≤ 5800000000000 := (by simp [Law.addT]; omega); have hl2 : (Law.addT { L with count := L.count + 1 } rs1 x1).tm.length ≤ 5800000000000 := (by simp [Law.addT]; omega); clear hI1 hm1 hr1 hg1 hf1 hk1 ht1 V2)
        | (go_at_call 35; refine (lstrings w6 q S1 (fun k => w2.heap.size ≤ k ∧ k < w3.heap.size) (Law.addT { L with count := L.count + 1 } rs1 x1) M1.out (.slice a2 cs.length c2) cs.length (cs.flatMap scells) V2'.out HS2.out hcl (by show 0 ≤ L.count + 1; omega) (by show L.count + 1 ≤ 10000000000000; omega) hl1 hl2).mono ?_; rintro e w7 ⟨rfl, x2, cur2, hI2⟩))
      go_ret
      obtain ⟨S2, T2, rs2, hm2, hr2, hg2, hf2, _, hk2, ht2⟩ := hI2.ex
      obtain ⟨hr1, hg1, hf1, hk1, ht1⟩ := G1.out
      have z1 := HZ.out
      have z2 := HSZ.out
      have s6 := hf1.size
      have s7 := hf2.size
      have s5 := HB5.out.size
      have v2lt : ∀ k, (Value.slice a2 cs.length c2).ownBlock = some k → w2.heap.size ≤ k ∧ k < w3.heap.size := fun k hk => (V2'.out.ownS hk).1
      have hT1 : ∀ j, T1 j → ¬ (S1 j ∨ (Value.slice a2 cs.length c2).ownBlock = some j) := fun j hj h => by
        have h1 := ht1 j hj
        rcases h with h | h
        · exact h1.2.1 h
        · have h2 := v2lt j h
          rcases h1.1 with h3 | h3
          · have := z2.2.2.2.1 j h3; omega
          · omega
      refine ⟨by simp, S2, (fun j => T1 j ∨ T2 j), rs1 ++ rs2, List.replicate rs1.length x1 ++ List.replicate rs2.length x2, ?_, by simp [hr1, hr2], ?_, ?_, Laid.both ?_ ?_, fun j hj => ?_⟩
      · have e : Law.addT { Law.addT { L with count := L.count + 1 } rs1 x1 with count := (Law.addT { L with count := L.count + 1 } rs1 x1).count + 1 } rs2 x2 = L.addLog (rs1 ++ rs2) (List.replicate rs1.length x1 ++ List.replicate rs2.length x2) := by
          simp [Law.addT, Law.addLog, List.append_assoc, Int.add_assoc]
        rw [← e]
        exact hm2
      · exact (fun k hk => (hg2 k hk).elim (fun h => (hg1 k h).elim .inl (fun h => .inr (by omega))) (fun h => .inr (by omega)))
      · refine ((Fr.of_below (S := S) HB5.out).trans hf1 (fun i hi => hi.elim .inl (fun h => .inr ?_))).trans hf2 (fun i hi => hi.elim (fun h => (hg1 i h).elim .inl (fun h => .inr (by omega))) (fun h => .inr (by have := v2lt i h; omega)))
        exact Nat.le_trans z1.1 (V1own i h)
      · exact (Laid.of_marks hk1).same (fun k hk hl => ⟨hf2.block k hl (hT1 k hk), .inl hk⟩)
      · exact (Laid.of_marks hk2).same (fun k hk _ => ⟨rfl, .inr hk⟩)
      · rcases hj with hj | hj
        · have h1 := ht1 j hj
          refine ⟨?_, fun h => (hg2 j h).elim h1.2.1 (fun h => by omega), by omega⟩
          rcases h1.1 with h3 | h3
          · exact Nat.le_trans z1.1 (V1own j h3)
          · omega
        · have h1 := ht2 j hj
          refine ⟨?_, h1.2.1, h1.2.2⟩
          rcases h1.1 with h3 | h3
          · have := v2lt j h3; omega
          · omega
end Go.Proofs.YtkehpnobidendaaGreatDoor

namespace Go.Proofs.YtkehpnobidendaaGreatDoor
open Go.RowKit

/-- One member of both sides. -/
structure MSit (w : World) (A : Nat → Nat → Prop) (i : Nat) (x : Nat × Nat) (m : Mem) (n : Nat) : Prop where
  pm : PMem w x.1 (A (2 * i + 2)) m
  rm : RMem w x.2 (A (2 * i + 3)) w.heap.size m []
  inv : Inv m
  once : Once m
  bl : m.blocks.length ≤ 2 * n + 1
  ep : m.enters.length + m.proposed.length ≤ 2 * n
  vt : m.votes.length ≤ n
  wt : m.waited ≤ n
  kb : ∀ x ∈ m.blocks, x.1 < 18446744073709551616
/-- What the law's record may hold behind n steps. -/
structure Lim (L : Law) (n : Nat) : Prop where
  me : L.members.length ≤ 8
  le : L.letters.length ≤ 2000
  bl : L.blocks.length ≤ 2 * n
  ok : L.Ok
  c0 : 0 ≤ L.count
  c1 : L.count ≤ 2 * n
  tx : L.texts.length ≤ 8 * n
  tm : L.tm.length ≤ 8 * n
  ou : L.outs.length ≤ 4 * n
  om : L.om.length ≤ 4 * n
theorem Lim.mono {L : Law} {n n' : Nat} (h : Lim L n) (hn : n ≤ n') : Lim L n' :=
  ⟨h.me, h.le, by have := h.bl; omega, h.ok, h.c0, by have := h.c1; omega, by have := h.tx; omega, by have := h.tm; omega, by have := h.ou; omega, by have := h.om; omega⟩
theorem MSit.mono {w : World} {A : Nat → Nat → Prop} {i : Nat} {x : Nat × Nat} {m : Mem} {n n' : Nat} (h : MSit w A i x m n) (hn : n ≤ n') : MSit w A i x m n' :=
  ⟨h.pm, h.rm, h.inv, h.once, by have := h.bl; omega, by have := h.ep; omega, by have := h.vt; omega, by have := h.wt; omega, h.kb⟩
structure SitA (w0 w : World) (q : Nat) (L : Law) (ms : List Mem) (n : Nat) (A : Nat → Nat → Prop) : Prop where
  own : ∀ a b k, A a k → A b k → a = b
  bnd : ∀ a k, A a k → w0.heap.size ≤ k ∧ k < w.heap.size
  law : LMem w q (A 0) L
  kept : Kept w (A 1) L
  len : L.members.length = ms.length
  mem : ∀ i x m, L.members[i]? = some x → ms[i]? = some m → MSit w A i x m n
  below : Below w0.heap.size w0 w
  tab : Tab w0
  lim : Lim L n
theorem Kept.same {w w' : World} {T T' : Nat → Prop} {L : Law} (h : Kept w T L) (hb : ∀ k, T k → k < w.heap.size → w'.heap[k]? = w.heap[k]? ∧ T' k) : Kept w' T' L := by
  refine ⟨h.lt, h.lo, fun i h1 h2 => ?_, fun i h1 h2 => ?_⟩
  · obtain ⟨n, hr⟩ := h.t i h1 h2
    exact ⟨n, hr.same hb⟩
  · obtain ⟨n, hr⟩ := h.o i h1 h2
    exact ⟨n, hr.same hb⟩
/-- A member aside of what turns. -/
theorem MSit.fr {w w' : World} {A A' : Nat → Nat → Prop} {i : Nat} {x : Nat × Nat} {m : Mem} {n : Nat} {Z : Nat → Prop} (h : MSit w A i x m n) (hf : Fr Z w w') (h0 : ¬ Z 0) (hz : ∀ k, A (2 * i + 2) k ∨ A (2 * i + 3) k → ¬ Z k) (e2 : A' (2 * i + 2) = A (2 * i + 2)) (e3 : A' (2 * i + 3) = A (2 * i + 3)) : MSit w' A' i x m n := by
  refine ⟨?_, ?_, h.inv, h.once, h.bl, h.ep, h.vt, h.wt, h.kb⟩
  · rw [e2]; exact h.pm.fr hf (fun k hk => hz k (.inl hk)) h0
  · rw [e3]; exact (h.rm.rest _).fr hf (fun k hk => hz k (.inr hk))
/-- Nothing of it turns. -/
theorem SitA.quiet {w0 w w' : World} {q : Nat} {L : Law} {ms : List Mem} {n : Nat} {A : Nat → Nat → Prop} (h : SitA w0 w q L ms n A) (hb : Below w.heap.size w w') : SitA w0 w' q L ms n A := by
  have hs := hb.size
  refine ⟨h.own, fun a k hk => ⟨(h.bnd a k hk).1, by have := (h.bnd a k hk).2; omega⟩, h.law.below hb, h.kept.same (fun k hk hl => ⟨hb.block k hl, hk⟩), h.len, fun i x m hx hm => ?_, ⟨hb.os.trans h.below.os, hb.tape.trans h.below.tape, hb.output.trans h.below.output, Nat.le_trans h.below.size hs, fun k hk => (hb.block k (Nat.lt_of_lt_of_le hk h.below.size)).trans (h.below.block k hk)⟩, h.tab, h.lim⟩
  exact (h.mem i x m hx hm).fr (Fr.of_below (S := fun _ => False) hb) (fun h => h) (fun _ _ h => h) rfl rfl
/-- Two parties' sets are others now. -/
def upd2 (A : Nat → Nat → Prop) (a : Nat) (X : Nat → Prop) (b : Nat) (Y : Nat → Prop) : Nat → Nat → Prop := fun c => if c = a then X else if c = b then Y else A c
theorem upd2_fst {A : Nat → Nat → Prop} {a b : Nat} {X Y : Nat → Prop} : upd2 A a X b Y a = X := by simp [upd2]
theorem upd2_snd {A : Nat → Nat → Prop} {a b : Nat} {X Y : Nat → Prop} (h : a ≠ b) : upd2 A a X b Y b = Y := by simp [upd2, h.symm]
theorem upd2_not {A : Nat → Nat → Prop} {a b c : Nat} {X Y : Nat → Prop} (h1 : c ≠ a) (h2 : c ≠ b) : upd2 A a X b Y c = A c := by simp [upd2, h1, h2]
theorem own_upd {A : Nat → Nat → Prop} {a b N : Nat} {X Y : Nat → Prop} (hab : a ≠ b) (own : ∀ a b k, A a k → A b k → a = b) (bnd : ∀ a k, A a k → k < N) (hX : ∀ k, X k → A a k ∨ N ≤ k) (hY : ∀ k, Y k → A b k ∨ N ≤ k) (hXY : ∀ k, X k → ¬ Y k) : ∀ c d k, upd2 A a X b Y c k → upd2 A a X b Y d k → c = d := by
  intro c d k hc hd
  have key : ∀ c k, upd2 A a X b Y c k → A c k ∨ (N ≤ k ∧ ((c = a ∧ X k) ∨ (c = b ∧ Y k))) := by
    intro c k h
    unfold upd2 at h
    by_cases h1 : c = a
    · subst h1; rw [if_pos rfl] at h
      exact (hX k h).imp id (fun hn => ⟨hn, .inl ⟨rfl, h⟩⟩)
    · rw [if_neg h1] at h
      by_cases h2 : c = b
      · subst h2; rw [if_pos rfl] at h
        exact (hY k h).imp id (fun hn => ⟨hn, .inr ⟨rfl, h⟩⟩)
      · rw [if_neg h2] at h; exact .inl h
  rcases key c k hc with h1 | ⟨hn, h1⟩
  · rcases key d k hd with h2 | ⟨hn, _⟩
    · exact own c d k h1 h2
    · have := bnd c k h1; omega
  · rcases key d k hd with h2 | ⟨_, h2⟩
    · have := bnd d k h2; omega
    · rcases h1 with ⟨rfl, h1⟩ | ⟨rfl, h1⟩ <;> rcases h2 with ⟨rfl, h2⟩ | ⟨rfl, h2⟩
      · rfl
      · exact absurd h2 (hXY k h1)
      · exact absurd h1 (hXY k h2)
      · rfl
theorem bnd_upd {A : Nat → Nat → Prop} {a b N N' B : Nat} {X Y : Nat → Prop} (bnd : ∀ a k, A a k → B ≤ k ∧ k < N) (hX : ∀ k, X k → A a k ∨ N ≤ k) (hY : ∀ k, Y k → A b k ∨ N ≤ k) (hX' : ∀ k, X k → k < N') (hY' : ∀ k, Y k → k < N') (hB : B ≤ N) (hN : N ≤ N') : ∀ c k, upd2 A a X b Y c k → B ≤ k ∧ k < N' := by
  intro c k h
  unfold upd2 at h
  split at h
  · exact ⟨(hX k h).elim (fun h => (bnd _ _ h).1) (fun h => by omega), hX' k h⟩
  · split at h
    · exact ⟨(hY k h).elim (fun h => (bnd _ _ h).1) (fun h => by omega), hY' k h⟩
    · exact ⟨(bnd _ _ h).1, by have := (bnd _ _ h).2; omega⟩
/-- A member of both sides has turned. -/
theorem SitA.member {w0 w w' : World} {q : Nat} {L : Law} {ms : List Mem} {n : Nat} {A : Nat → Nat → Prop} (h : SitA w0 w q L ms n A) {i : Nat} {x : Nat × Nat} {m' : Mem} (hx : L.members[i]? = some x) {P R : Nat → Prop} (hf : Fr (fun k => A (2 * i + 2) k ∨ A (2 * i + 3) k) w w') (hp : PMem w' x.1 P m') (hr : RMem w' x.2 R w'.heap.size m' []) (hP : Grow (A (2 * i + 2)) w P) (hR : Grow (A (2 * i + 3)) w R) (hP' : ∀ k, P k → k < w'.heap.size) (hR' : ∀ k, R k → k < w'.heap.size) (hPR : ∀ k, P k → ¬ R k)
    (hi : Inv m') (ho : Once m') (bl : m'.blocks.length ≤ 2 * (n + 1) + 1) (ep : m'.enters.length + m'.proposed.length ≤ 2 * (n + 1)) (vt : m'.votes.length ≤ n + 1) (wt : m'.waited ≤ (n + 1 : Nat)) (kb : ∀ x ∈ m'.blocks, x.1 < 18446744073709551616) :
    SitA w0 w' q L (ms.set i m') (n + 1) (upd2 A (2 * i + 2) P (2 * i + 3) R) := by
  have hs := hf.size
  have hne : 2 * i + 2 ≠ 2 * i + 3 := by omega
  have hz0 : ¬ (A (2 * i + 2) 0 ∨ A (2 * i + 3) 0) := fun h0 => by
    have := h.tab.pos
    rcases h0 with h0 | h0
    · have := (h.bnd _ _ h0).1; omega
    · have := (h.bnd _ _ h0).1; omega
  have apart : ∀ c k, c ≠ 2 * i + 2 → c ≠ 2 * i + 3 → A c k → ¬ (A (2 * i + 2) k ∨ A (2 * i + 3) k) := fun c k h1 h2 hk hh => by
    rcases hh with hh | hh
    · exact h1 (h.own _ _ _ hk hh)
    · exact h2 (h.own _ _ _ hk hh)
  refine ⟨own_upd hne h.own (fun a k hk => (h.bnd a k hk).2) hP hR hPR, bnd_upd h.bnd hP hR hP' hR' h.below.size hs, ?_, ?_, by simp [h.len], fun j y m hy hm => ?_, ?_, h.tab, h.lim.mono (by omega)⟩
  · rw [upd2_not (by omega) (by omega)]
    exact h.law.fr hf (fun k hk => apart 0 k (by omega) (by omega) hk)
  · rw [upd2_not (by omega) (by omega)]
    exact h.kept.same (fun k hk hl => ⟨hf.block k hl (apart 1 k (by omega) (by omega) hk), hk⟩)
  · by_cases hij : i = j
    · subst hij
      rw [hx] at hy
      cases hy
      rw [List.getElem?_set] at hm
      simp only [if_true] at hm
      split at hm
      · cases hm
        exact ⟨by rw [upd2_fst]; exact hp, by rw [upd2_snd hne]; exact hr, hi, ho, bl, ep, vt, wt, kb⟩
      · cases hm
    · rw [List.getElem?_set_ne hij] at hm
      refine ((h.mem j y m hy hm).fr hf hz0 (fun k hk => ?_) (upd2_not (by omega) (by omega)) (upd2_not (by omega) (by omega))).mono (by omega)
      rcases hk with hk | hk
      · exact apart _ k (by omega) (by omega) hk
      · exact apart _ k (by omega) (by omega) hk
  · exact ⟨hf.os.trans h.below.os, hf.tape.trans h.below.tape, hf.output.trans h.below.output, Nat.le_trans h.below.size hs, fun k hk => (hf.block k (Nat.lt_of_lt_of_le hk h.below.size) (fun hh => by
      rcases hh with hh | hh
      · have := (h.bnd _ _ hh).1; omega
      · have := (h.bnd _ _ hh).1; omega)).trans (h.below.block k hk)⟩
/-- The law's record has turned, and more lists are kept. -/
theorem SitA.laws {w0 w w' : World} {q : Nat} {L L' : Law} {ms : List Mem} {n n' : Nat} {A : Nat → Nat → Prop} (h : SitA w0 w q L ms n A) {S T V : Nat → Prop} (hV : ∀ k, V k → ∀ b, ¬ A b k) (hV0 : ∀ k, V k → w0.heap.size ≤ k) (hf : Fr (fun k => A 0 k ∨ V k) w w') (hl : LMem w' q S L') (hS : Grow (A 0) w S) (hT : ∀ k, T k → (V k ∨ w.heap.size ≤ k) ∧ ¬ S k ∧ k < w'.heap.size) (hk : Kept w' (fun k => A 1 k ∨ T k) L') (hmm : L'.members = L.members) (lim : Lim L' n') (hn : n ≤ n') :
    ∃ A', SitA w0 w' q L' ms n' A' := by
  have hs := hf.size
  have hs' : ∀ k, S k → k < w'.heap.size := hl.own
  have hz0 : ¬ (A 0 0 ∨ V 0) := fun h0 => by
    have := h.tab.pos
    rcases h0 with h0 | h0
    · have := (h.bnd _ _ h0).1; omega
    · have := hV0 _ h0; omega
  have apart : ∀ c k, c ≠ 0 → A c k → ¬ (A 0 k ∨ V k) := fun c k h1 hk hh => by
    rcases hh with hh | hh
    · exact h1 (h.own _ _ _ hk hh)
    · exact hV k hh c hk
  have nS : ∀ c k, c ≠ 0 → A c k → ¬ S k := fun c k h1 hk hh => by
    rcases hS k hh with h2 | h2
    · exact h1 (h.own _ _ _ hk h2)
    · have := (h.bnd _ _ hk).2; omega
  refine ⟨fun c => if c = 0 then S else if c = 1 then (fun k => A 1 k ∨ T k) else A c, ⟨fun c d k hc hd => ?_, fun c k hc => ?_, hl, hk, by rw [hmm]; exact h.len, fun i x m hx hm => ?_, ?_, h.tab, lim⟩⟩
  · have key : ∀ c, (if c = 0 then S else if c = 1 then (fun k => A 1 k ∨ T k) else A c) k → (c = 0 ∧ S k) ∨ (c ≠ 0 ∧ A c k) ∨ (c = 1 ∧ T k) := by
      intro c hc
      by_cases h1 : c = 0
      · subst h1; rw [if_pos rfl] at hc; exact .inl ⟨rfl, hc⟩
      · rw [if_neg h1] at hc
        by_cases h2 : c = 1
        · subst h2; rw [if_pos rfl] at hc
          exact hc.elim (fun h => .inr (.inl ⟨h1, h⟩)) (fun h => .inr (.inr ⟨rfl, h⟩))
        · rw [if_neg h2] at hc; exact .inr (.inl ⟨h1, hc⟩)
    have tA : ∀ c, A c k → ¬ T k := fun c hA hT' => by
      rcases (hT k hT').1 with h1 | h1
      · exact hV k h1 c hA
      · have := (h.bnd _ _ hA).2; omega
    rcases key c hc with ⟨rfl, h1⟩ | ⟨h0, h1⟩ | ⟨rfl, h1⟩ <;> rcases key d hd with ⟨rfl, h2⟩ | ⟨h0', h2⟩ | ⟨rfl, h2⟩
    · rfl
    · exact absurd h1 (nS d k h0' h2)
    · exact absurd h1 (hT k h2).2.1
    · exact absurd h2 (nS c k h0 h1)
    · exact h.own _ _ _ h1 h2
    · exact absurd h2 (tA c h1)
    · exact absurd h2 (hT k h1).2.1
    · exact absurd h1 (tA d h2)
    · rfl
  · by_cases h1 : c = 0
    · subst h1; rw [if_pos rfl] at hc
      exact ⟨(hS k hc).elim (fun h2 => (h.bnd _ _ h2).1) (fun h2 => by have := h.below.size; omega), hs' k hc⟩
    · rw [if_neg h1] at hc
      by_cases h2 : c = 1
      · subst h2; rw [if_pos rfl] at hc
        rcases hc with hc | hc
        · exact ⟨(h.bnd _ _ hc).1, by have := (h.bnd _ _ hc).2; omega⟩
        · have h3 := hT k hc
          exact ⟨h3.1.elim (hV0 k) (fun h4 => by have := h.below.size; omega), h3.2.2⟩
      · rw [if_neg h2] at hc
        exact ⟨(h.bnd _ _ hc).1, by have := (h.bnd _ _ hc).2; omega⟩
  · rw [hmm] at hx
    refine ((h.mem i x m hx hm).fr hf hz0 (fun k hk => ?_) (by simp) (by simp)).mono hn
    rcases hk with hk | hk
    · exact apart _ k (by omega) hk
    · exact apart _ k (by omega) hk
  · exact ⟨hf.os.trans h.below.os, hf.tape.trans h.below.tape, hf.output.trans h.below.output, Nat.le_trans h.below.size hs, fun k hk => (hf.block k (Nat.lt_of_lt_of_le hk h.below.size) (fun hh => by
      rcases hh with hh | hh
      · have := (h.bnd _ _ hh).1; omega
      · have := hV0 _ hh; omega)).trans (h.below.block k hk)⟩
end Go.Proofs.YtkehpnobidendaaGreatDoor

namespace Go.Proofs.YtkehpnobidendaaGreatDoor
open Go.RowKit

/-- The record takes a member more. -/
theorem SitA.joins {w0 w w' : World} {q : Nat} {L : Law} {ms : List Mem} {n : Nat} {A : Nat → Nat → Prop} (h : SitA w0 w q L ms n A) {S P R : Nat → Prop} {x : Nat × Nat} {m : Mem} (hf : Fr (A 0) w w') (hl : LMem w' q S { L with members := L.members ++ [x] }) (hS : Grow (A 0) w S) (hp : PMem w' x.1 P m) (hr : RMem w' x.2 R w'.heap.size m []) (hP : ∀ k, P k → w.heap.size ≤ k ∧ k < w'.heap.size) (hR : ∀ k, R k → w.heap.size ≤ k ∧ k < w'.heap.size) (hPR : ∀ k, P k → ¬ R k) (hPS : ∀ k, P k → ¬ S k) (hRS : ∀ k, R k → ¬ S k) (hm8 : L.members.length < 8)
    (hi : Inv m) (ho : Once m) (bl : m.blocks.length ≤ 2 * n + 1) (ep : m.enters.length + m.proposed.length ≤ 2 * n) (vt : m.votes.length ≤ n) (wt : m.waited ≤ n) (kb : ∀ x ∈ m.blocks, x.1 < 18446744073709551616) :
    ∃ A', SitA w0 w' q { L with members := L.members ++ [x] } (ms ++ [m]) n A' := by
  have hs := hf.size
  have hs' : ∀ k, S k → k < w'.heap.size := hl.own
  have hz0 : ¬ A 0 0 := fun h0 => by
    have := h.tab.pos
    have := (h.bnd _ _ h0).1; omega
  have apart : ∀ c k, c ≠ 0 → A c k → ¬ A 0 k := fun c k h1 hk hh => h1 (h.own _ _ _ hk hh)
  have nS : ∀ c k, c ≠ 0 → A c k → ¬ S k := fun c k h1 hk hh => by
    rcases hS k hh with h2 | h2
    · exact h1 (h.own _ _ _ hk h2)
    · have := (h.bnd _ _ hk).2; omega
  have hb0 := h.below.size
  obtain ⟨l, hll⟩ : ∃ l, l = L.members.length := ⟨_, rfl⟩
  obtain ⟨A', hA'⟩ : ∃ A' : Nat → Nat → Prop, A' = fun c => if c = 0 then S else if c = 2 * l + 2 then P else if c = 2 * l + 3 then R else A c := ⟨_, rfl⟩
  have a0 : A' 0 = S := by rw [hA']; simp
  have aP : A' (2 * l + 2) = P := by rw [hA']; simp
  have aR : A' (2 * l + 3) = R := by rw [hA']; simp
  have aN : ∀ c, c ≠ 0 → c ≠ 2 * l + 2 → c ≠ 2 * l + 3 → A' c = A c := fun c h1 h2 h3 => by rw [hA']; simp [h1, h2, h3]
  have key : ∀ c k, A' c k → (c = 0 ∧ S k) ∨ (c = 2 * l + 2 ∧ P k) ∨ (c = 2 * l + 3 ∧ R k) ∨ (c ≠ 0 ∧ A c k) := by
    intro c k hc
    by_cases h1 : c = 0
    · subst h1; rw [a0] at hc; exact .inl ⟨rfl, hc⟩
    · by_cases h2 : c = 2 * l + 2
      · subst h2; rw [aP] at hc; exact .inr (.inl ⟨rfl, hc⟩)
      · by_cases h3 : c = 2 * l + 3
        · subst h3; rw [aR] at hc; exact .inr (.inr (.inl ⟨rfl, hc⟩))
        · rw [aN c h1 h2 h3] at hc; exact .inr (.inr (.inr ⟨h1, hc⟩))
  have pA : ∀ c k, A c k → ¬ P k := fun c k hA hP' => by have := (hP k hP').1; have := (h.bnd _ _ hA).2; omega
  have rA : ∀ c k, A c k → ¬ R k := fun c k hA hR' => by have := (hR k hR').1; have := (h.bnd _ _ hA).2; omega
  refine ⟨A', ⟨fun c d k hc hd => ?_, fun c k hc => ?_, by rw [a0]; exact hl, ?_, by simp [h.len], fun i y m' hy hm => ?_, ?_, h.tab, ⟨by simp; omega, h.lim.le, h.lim.bl, h.lim.ok, h.lim.c0, h.lim.c1, h.lim.tx, h.lim.tm, h.lim.ou, h.lim.om⟩⟩⟩
  · rcases key c k hc with ⟨rfl, h1⟩ | ⟨rfl, h1⟩ | ⟨rfl, h1⟩ | ⟨h0, h1⟩ <;> rcases key d k hd with ⟨rfl, h2⟩ | ⟨rfl, h2⟩ | ⟨rfl, h2⟩ | ⟨h0', h2⟩
    · rfl
    · exact absurd h1 (hPS k h2)
    · exact absurd h1 (hRS k h2)
    · exact absurd h1 (nS d k h0' h2)
    · exact absurd h2 (hPS k h1)
    · rfl
    · exact absurd h2 (hPR k h1)
    · exact absurd h1 (pA d k h2)
    · exact absurd h2 (hRS k h1)
    · exact absurd h1 (hPR k h2)
    · rfl
    · exact absurd h1 (rA d k h2)
    · exact absurd h2 (nS c k h0 h1)
    · exact absurd h2 (pA c k h1)
    · exact absurd h2 (rA c k h1)
    · exact h.own _ _ _ h1 h2
  · rcases key c k hc with ⟨rfl, h1⟩ | ⟨rfl, h1⟩ | ⟨rfl, h1⟩ | ⟨h0, h1⟩
    · exact ⟨(hS k h1).elim (fun h2 => (h.bnd _ _ h2).1) (fun h2 => by omega), hs' k h1⟩
    · have := hP k h1; exact ⟨by omega, this.2⟩
    · have := hR k h1; exact ⟨by omega, this.2⟩
    · have := h.bnd c k h1; exact ⟨this.1, by omega⟩
  · rw [aN 1 (by omega) (by omega) (by omega)]
    have hk := h.kept.same (w' := w') (T' := A 1) (fun k hk hl => ⟨hf.block k hl (apart 1 k (by omega) hk), hk⟩)
    exact ⟨hk.lt, hk.lo, hk.t, hk.o⟩
  · by_cases hil : i < l
    · have hy' : L.members[i]? = some y := by
        have e : (L.members ++ [x])[i]? = L.members[i]? := List.getElem?_append_left (by omega)
        rw [← e]; exact hy
      have hm'' : ms[i]? = some m' := by
        have e : (ms ++ [m])[i]? = ms[i]? := List.getElem?_append_left (by rw [← h.len]; omega)
        rw [← e]; exact hm
      exact (h.mem i y m' hy' hm'').fr hf hz0 (fun k hk => hk.elim (fun hk => apart _ k (by omega) hk) (fun hk => apart _ k (by omega) hk)) (aN _ (by omega) (by omega) (by omega)) (aN _ (by omega) (by omega) (by omega))
    · have hil2 : i = l := by
        have := (List.getElem?_eq_some_iff.1 hy).1
        simp at this; omega
      subst hil2
      have e1 : (L.members ++ [x])[i]? = some x := by rw [List.getElem?_append_right (by omega)]; simp [hll]
      have e2 : (ms ++ [m])[i]? = some m := by rw [List.getElem?_append_right (by rw [← h.len]; omega)]; simp [hll, h.len]
      have hy2 : (L.members ++ [x])[i]? = some y := hy
      rw [e1] at hy2
      rw [e2] at hm
      cases hy2; cases hm
      exact ⟨by rw [aP]; exact hp, by rw [aR]; exact hr, hi, ho, bl, ep, vt, wt, kb⟩
  · exact ⟨hf.os.trans h.below.os, hf.tape.trans h.below.tape, hf.output.trans h.below.output, Nat.le_trans h.below.size hs, fun k hk => (hf.block k (Nat.lt_of_lt_of_le hk h.below.size) (fun hh => by have := (h.bnd _ _ hh).1; omega)).trans (h.below.block k hk)⟩
end Go.Proofs.YtkehpnobidendaaGreatDoor

namespace Go.Proofs.YtkehpnobidendaaGreatDoor
open Go.RowKit

theorem RMem.own {w : World} {p : Nat} {S : Nat → Prop} {B : Nat} {m : Mem} {out : List Ltr} (h : RMem w p S B m out) : ∀ k, S k → k < w.heap.size := by
  obtain ⟨_, _, _, _, _, _, _, h, _⟩ := h
  exact h.lt
theorem once_new (a b : Int) : Once (Mem.new a b) := ⟨fun v => by simp [Mem.entered, Mem.new]; rfl⟩
theorem info_member : (Tryz.prog.info? 50).map (fun i => (i.zero, i.size, i.bytes)) = some (some (.agg #[.pointer none, .pointer none]), 2, 16) := by kernel_rfl
set_option maxRecDepth 100000 in
set_option maxHeartbeats 1000000 in
theorem plain4_no (o : OpD) (hk : o.k = 4) (w : World) (q : Nat) (hno : newOk o.a o.b = false) :
    Calls Tryz.prog 9 #[.pointer (some ⟨q, 0, none⟩), .agg o.cells] w fun e w' => e = .returned (.bool true) ∧ Below w.heap.size w w' := by
  obtain ⟨k, on, a, b, s, n, m0, m1, m2, bv, jv, jb, j0, j1, j2, j3, c, nu, cv, cb, c0, c1, c2, c3, sl⟩ := o
  dsimp only [OpD.cells] at *
  subst hk
  go_enter Tryz.func9, Tryz.ntmps9
  go_wp2_with (first
    | (go_at_call 31; refine (pnew_no _ _ hno _).mono ?_; rintro e w1 ⟨rfl, hb⟩; have e2 : w1.cell? ⟨w.heap.size, 2, none⟩ = some (.int .i64 a) := box_cell hb 2; have e3 : w1.cell? ⟨w.heap.size, 3, none⟩ = some (.int .i64 b) := box_cell hb 3)
    | (go_at_call 32; refine (rnew_no _ _ hno _).mono ?_; rintro e w2 ⟨rfl, hc⟩))
  all_goals (
    go_ret
    exact ⟨rfl, bnext (bnext (below_alloc _ _) hb) hc⟩)
set_option maxRecDepth 100000 in
set_option maxHeartbeats 1000000 in
theorem plain4_ok (o : OpD) (hk : o.k = 4) (hok : newOk o.a o.b = true) {w0 w : World} {q : Nat} {L : Law} {ms : List Mem} {n : Nat} {A : Nat → Nat → Prop} (h : SitA w0 w q L ms n A) :
    Calls Tryz.prog 9 #[.pointer (some ⟨q, 0, none⟩), .agg o.cells] w fun e w' => e = .returned (.bool true) ∧ ∃ L' ms' A', SitA w0 w' q L' ms' n A' ∧ 0 < ms'.length := by
  have HS : Hid (SitA w0 w q L ms n A) := h
  have htb : ∀ W, Below w.heap.size w W → Tab W := fun W hW => (h.tab.below h.below).below hW
  clear h
  obtain ⟨k, on, a, b, s, n', m0, m1, m2, bv, jv, jb, j0, j1, j2, j3, c, nu, cv, cb, c0, c1, c2, c3, sl⟩ := o
  dsimp only [OpD.cells] at *
  subst hk
  have HB0 : Hid (∀ o, Below w.heap.size w (w.alloc o)) := fun o => below_alloc w o
  have hnew : 0 ≤ a ∧ a ≤ 3 ∧ 1 ≤ b ∧ b ≤ 100 := by simpa [newOk] using hok
  by_cases h8 : (L.members.length : Int) < 8
  all_goals (
    go_enter Tryz.func9, Tryz.ntmps9
    go_wp2_with (first
      | (go_at_call 31; refine (pnew_ok _ _ hok _ (htb _ (HB0.out _))).mono ?_; rintro e w1 ⟨pp, rfl, hP, hb⟩; have e2 : w1.cell? ⟨w.heap.size, 2, none⟩ = some (.int .i64 a) := box_cell hb 2; have e3 : w1.cell? ⟨w.heap.size, 3, none⟩ = some (.int .i64 b) := box_cell hb 3; have HP : Hid (∃ S, PMem w1 pp S (Mem.new a b) ∧ ∀ k, S k → w.heap.size ≤ k) := (by obtain ⟨S, h1, h2⟩ := hP; exact ⟨S, h1, fun k hk => Nat.le_trans (HB0.out _).size (h2 k hk)⟩); have HB1 : Hid (Below w.heap.size w w1) := bnext (HB0.out _) hb; clear hP hb)
      | (go_at_call 32; refine (rnew_ok _ _ hok _).mono ?_; rintro e w2 ⟨rfl, hR, hc⟩; have HR : Hid (∃ S, RMem w2 w1.heap.size S w2.heap.size (Mem.new a b) [] ∧ ∀ k, S k → w1.heap.size ≤ k) := hR; have HC : Hid (Below w1.heap.size w1 w2) := hc; have HB2 : Hid (Below w.heap.size w w2) := bnext HB1.out hc; obtain ⟨vm, vl, vb, vt, vs, vo, vn, hbun⟩ := (HS.out.law.below HB2.out).ex; have q0 : w2.cell? ⟨q, 0, none⟩ = some vm := cell_at hbun.box 0; have hrow : Row w2 (A 0) 50 2 vm L.members.length (L.members.flatMap pcells) := hbun.row 0 _ _ _ rfl rfl rfl; obtain ⟨am, cm, rfl⟩ := hrow.isSlice; have HBU : Hid (Bun w2 q 34 (A 0) (lcells L (.slice am L.members.length cm) vl vb vt vs vo vn) [.slice am L.members.length cm, vl, vb, vt, vs, vo, vn] lE (lX L)) := hbun; have HRW : Hid (Row w2 (A 0) 50 2 (.slice am L.members.length cm) L.members.length (L.members.flatMap pcells)) := hrow; clear hbun hrow hR hc e2 e3)
      | (at_builtin; refine wpList_append_row rfl (.tmp 109) (.tmp 113) 26 rfl (A 0) 50 _ 2 16 Tryz.underlying26 info_member rfl (.slice am L.members.length cm) L.members.length (L.members.flatMap pcells) rfl (HRW.out.alloc _) ⟨w2.heap.size, 0, none⟩ 1 1 (pcells (pp, w1.heap.size)) rfl rfl (new_cells _ _ _ rfl) (by simp [pcells, Value.oneCell']) (by omega) (by unfold maxLen; omega) (by omega) ?_; intro v' w3 hr' hf; obtain ⟨a', cap', rfl⟩ := hr'.isSlice; have hb1 := (HBU.out.alloc _).after 0 rfl hf; have d2' : w3.cell? ⟨q, 0, none⟩ = some (.slice am L.members.length cm) := cell_at hb1 0; have fz1 := free_at hb1; clear hb1; have HR' : Hid (Row w3 (fun k => (Value.slice am L.members.length cm).ownBlock = some k ∨ k = (w2.alloc (.cells #[.pointer (some ⟨pp, 0, none⟩), .pointer (some ⟨w1.heap.size, 0, none⟩)] 50)).heap.size) 50 2 (.slice a' (L.members.length + 1) cap') (L.members.length + 1) (L.members.flatMap pcells ++ pcells (pp, w1.heap.size))) := hr'; have HF : Hid (Fr (fun k => (Value.slice am L.members.length cm).ownBlock = some k) (w2.alloc (.cells #[.pointer (some ⟨pp, 0, none⟩), .pointer (some ⟨w1.heap.size, 0, none⟩)] 50)) w3) := hf; clear hr' hf)))
  · go_ret
    obtain ⟨P, hp, hPk⟩ := HP.out
    obtain ⟨R, hr, hRk⟩ := HR.out
    have hs1 := HB1.out.size
    have hs2 := HC.out.size
    have hsa : (w2.alloc (.cells #[.pointer (some ⟨pp, 0, none⟩), .pointer (some ⟨w1.heap.size, 0, none⟩)] 50)).heap.size = w2.heap.size + 1 := by simp
    have hs3 := HF.out.size
    have hA0 : ∀ k, A 0 k → k < w.heap.size := fun k hk => (HS.out.bnd 0 k hk).2
    have hfa : Fr (A 0) w2 (w3.setCell ⟨q, 0, none⟩ (.slice a' (L.members.length + 1) cap')) := (HBU.out.alloc _).frPut (Fr.alloc (A 0) w2 _) 0 rfl HF.out 0 _
    have hz0 : ¬ A 0 0 := fun h0 => by
      have := HS.out.tab.pos
      have := (HS.out.bnd _ _ h0).1; omega
    have hgr : Grow (A 0) w2 (fun k => A 0 k ∨ (Value.slice a' (L.members.length + 1) cap').ownBlock = some k) := grow_put HR'.out (by omega) (fun k hk => (HRW.out.ownS hk).1)
    have hsz := hfa.size
    have hlt : ∀ k, P k → k < w1.heap.size := hp.lt
    have hrt : ∀ k, R k → k < w2.heap.size := hr.own
    refine ⟨rfl, _, _, (HS.out.joins (x := (pp, w1.heap.size)) (m := Mem.new a b) (P := P) (R := R) ((Fr.of_below HB2.out).trans hfa (fun _ h => .inl h)) ⟨_, vl, vb, vt, vs, vo, vn, (HBU.out.alloc _).put 0 rfl rfl _ (L.members.length + 1, L.members.flatMap pcells ++ pcells (pp, w1.heap.size)) HR'.out HF.out 0 rfl rfl (by simp [lX])⟩ (fun k hk => (hgr k hk).elim .inl (fun h => .inr (by have := HB2.out.size; omega))) ((hp.below HC.out).fr hfa (fun k hk hA => by have := hPk k hk; have := hA0 k hA; omega) hz0) ((hr.rest _).fr hfa (fun k hk hA => by have := hRk k hk; have := hA0 k hA; omega)) (fun k hk => ⟨hPk k hk, by have := hlt k hk; omega⟩) (fun k hk => ⟨by have := hRk k hk; omega, by have := hrt k hk; omega⟩) (fun k hk hR => by have := hlt k hk; have := hRk k hR; omega) (fun k hk hS => (hgr k hS).elim (fun h => by have := hPk k hk; have := hA0 k h; omega) (fun h => by have := hlt k hk; omega)) (fun k hk hS => (hgr k hS).elim (fun h => by have := hRk k hk; have := hA0 k h; omega) (fun h => by have := hrt k hk; omega)) (by omega) (inv_new a b hnew) (once_new a b) (by simp [Mem.new]) (by simp [Mem.new]) (by simp [Mem.new]) (by simp [Mem.new]) (by simp [Mem.new])).imp fun A' h => ⟨h, by simp⟩⟩
  · go_ret
    exact ⟨rfl, L, ms, A, HS.out.quiet HB2.out, by have := HS.out.len; omega⟩
end Go.Proofs.YtkehpnobidendaaGreatDoor

namespace Go.Proofs.YtkehpnobidendaaGreatDoor
open Go.RowKit

/-- What the head of a step reads. -/
structure SeeL (w : World) (q : Nat) (L : Law) (i : Nat) (x : Nat × Nat) : Prop where
  ex : ∃ g off cm, w.cell? ⟨q, 0, none⟩ = some (.slice (some ⟨g, off, none⟩) L.members.length cm) ∧ w.cell? ⟨g, off + i * 2, none⟩ = some (.pointer (some ⟨x.1, 0, none⟩)) ∧ w.cell? ⟨g, off + i * 2 + 1, none⟩ = some (.pointer (some ⟨x.2, 0, none⟩)) ∧ g < w.heap.size ∧ q < w.heap.size ∧ L.members.length ≤ cm
theorem pcells_len (x : Nat × Nat) : (pcells x).length = 2 := rfl
theorem LMem.seeL {w : World} {q : Nat} {S : Nat → Prop} {L : Law} (h : LMem w q S L) {i : Nat} {x : Nat × Nat} (hx : L.members[i]? = some x) : SeeL w q L i x := by
  obtain ⟨hi, rfl⟩ := List.getElem?_eq_some_iff.1 hx
  obtain ⟨vm, vl, vb, vt, vs, vo, vn, hb⟩ := h.ex
  have q0 : w.cell? ⟨q, 0, none⟩ = some vm := cell_at hb.box 0
  have hrow : Row w S 50 2 vm L.members.length (L.members.flatMap pcells) := hb.row 0 _ _ _ rfl rfl rfl
  obtain ⟨am, cm, rfl⟩ := hrow.isSlice
  obtain ⟨g, off, rfl, _, hg, hcap⟩ := hrow.place (by omega)
  exact ⟨g, off, cm, q0, by have := hrow.elem pcells_len i 0 hi (by omega); simpa [pcells] using this, by have := hrow.elem pcells_len i 1 hi (by omega); simpa [pcells, Nat.add_assoc] using this, hg, lt_at hb.box, hcap⟩
set_option maxRecDepth 100000 in
set_option maxHeartbeats 1000000 in
theorem step6 (o : OpD) (ho : o.Ok) (hk : o.k = 6) {w : World} {q : Nat} {L : Law} {x : Nat × Nat} (hs : SeeL w q L (pickN o.on L.members.length) x) (hl : 0 < L.members.length) (hl8 : L.members.length ≤ 8) (m : Mem) {P R : Nat → Prop} (hp : PMem w x.1 P m) (hr : RMem w x.2 R w.heap.size m []) :
    Calls Tryz.prog 7 #[.pointer (some ⟨q, 0, none⟩), .agg o.cells] w fun e w' => e = .returned (.bool true) ∧ Below w.heap.size w w' := by
  have HV : Hid (∀ W, Below w.heap.size w W → Calls Tryz.prog 13 #[.pointer (some ⟨x.1, 0, none⟩)] W fun e w' => e = .returned (.int .i64 m.view) ∧ w' = W) := fun W hW => pview W x.1 P m (hp.below hW)
  have HR : Hid (∀ W, Below w.heap.size w W → W.cell? ⟨x.2, 2, none⟩ = some (.int .i64 m.view)) := fun W hW => (hr.below hW).see.c2
  clear hp hr
  obtain ⟨g, off, cm, q0, p0, p1, hg, hq, hcm⟩ := hs.ex
  have h0 := ho.on0
  have h1 := ho.on1
  clear hs
  obtain ⟨k, on, a, b, s, n, m0, m1, m2, bv, jv, jb, j0, j1, j2, j3, c, nu, cv, cb, c0, c1, c2, c3, sl⟩ := o
  dsimp only [OpD.cells] at *
  subst hk
  clear ho
  have hpl := pickN_lt on L.members.length hl
  have LP : Hid (∀ W, Calls Tryz.prog 10 #[.int .i64 on, .int .i64 L.members.length] W fun e w' => e = .returned (.int .i64 (pickN on L.members.length)) ∧ w' = W) := fun W => lpick on L.members.length h0 h1 hl (by omega) W
  generalize pickN on L.members.length = i at *
  obtain ⟨C, hC⟩ : ∃ C : Array Value, C = #[.int .i64 6, .int .i64 on, .int .i64 a, .int .i64 b, .string s, .int .u64 n, .int .i64 m0, .int .i64 m1, .int .i64 m2, .int .i64 bv, .int .i64 jv, .int .u64 jb, .int .u64 j0, .int .u64 j1, .int .u64 j2, .int .u64 j3, .string c, .int .u64 nu, .int .i64 cv, .int .u64 cb, .int .u64 c0, .int .u64 c1, .int .u64 c2, .int .u64 c3, .int .u64 sl] := ⟨_, rfl⟩
  have i0 : (0 : Int) ≤ (i : Int) := by omega
  have i1 : (i : Int) < (L.members.length : Int) := by omega
  have hX1 : (w.alloc (.cells C 45)).heap[w.heap.size]? = some (.cells C 45 (0, 0)) := heap_alloc_new w _
  have hB1 : Below w.heap.size w (w.alloc (.cells C 45)) := below_alloc w _
  have hZ1 : (w.alloc (.cells C 45)).heap.size = w.heap.size + 1 := by simp
  obtain ⟨W1, hW1⟩ : ∃ W, W = w.alloc (.cells C 45) := ⟨_, rfl⟩
  rw [← hW1] at hX1 hB1 hZ1
  rw [hC] at hW1
  go_enter Tryz.func7, Tryz.ntmps7
  go_upto_region 5 with fail
  rw [← hW1]
  have qa : W1.cell? ⟨q, 0, none⟩ = some (.slice (some ⟨g, off, none⟩) L.members.length cm) := (hB1.cell (p := ⟨q, 0, none⟩) hq).trans q0
  have qb : W1.cell? ⟨g, off + i * 2, none⟩ = some (.pointer (some ⟨x.1, 0, none⟩)) := (hB1.cell (p := ⟨g, _, none⟩) hg).trans p0
  have qc : W1.cell? ⟨g, off + i * 2 + 1, none⟩ = some (.pointer (some ⟨x.2, 0, none⟩)) := (hB1.cell (p := ⟨g, _, none⟩) hg).trans p1
  have qd : W1.cell? ⟨w.heap.size, 1, none⟩ = some (.int .i64 on) := (cell_at hX1 1).trans (by rw [hC]; rfl)
  have hqw : q < W1.heap.size := by omega
  have hgw : g < W1.heap.size := by omega
  have hww : w.heap.size < W1.heap.size := by omega
  have HS : Hid (∀ w', Below W1.heap.size W1 w' → Below W1.heap.size W1 w' ∧ w'.cell? ⟨q, 0, none⟩ = some (.slice (some ⟨g, off, none⟩) L.members.length cm) ∧ w'.cell? ⟨g, off + i * 2, none⟩ = some (.pointer (some ⟨x.1, 0, none⟩)) ∧ w'.cell? ⟨g, off + i * 2 + 1, none⟩ = some (.pointer (some ⟨x.2, 0, none⟩)) ∧ w'.cell? ⟨w.heap.size, 1, none⟩ = some (.int .i64 on)) := fun w' hb => ⟨hb, (hb.cell (p := ⟨q, 0, none⟩) hqw).trans qa, (hb.cell (p := ⟨g, _, none⟩) hgw).trans qb, (hb.cell (p := ⟨g, _, none⟩) hgw).trans qc, (hb.cell (p := ⟨w.heap.size, 1, none⟩) hww).trans qd⟩
  have hB2 : Below W1.heap.size W1 (W1.alloc (.cells #[.pointer (some ⟨x.1, 0, none⟩), .pointer (some ⟨x.2, 0, none⟩)] 50)).drew := (below_alloc W1 _).drew
  have hx2 : (W1.alloc (.cells #[.pointer (some ⟨x.1, 0, none⟩), .pointer (some ⟨x.2, 0, none⟩)] 50)).drew.heap[w.heap.size + 1]? = some (.cells #[.pointer (some ⟨x.1, 0, none⟩), .pointer (some ⟨x.2, 0, none⟩)] 50 (0, 0)) := by rw [← hZ1]; exact heap_alloc_new W1 _
  obtain ⟨W2, hW2⟩ : ∃ W, W = (W1.alloc (.cells #[.pointer (some ⟨x.1, 0, none⟩), .pointer (some ⟨x.2, 0, none⟩)] 50)).drew := ⟨_, rfl⟩
  rw [← hW2] at hB2 hx2
  have HX : Hid (∀ W, Below W2.heap.size W2 W → (W.cell? ⟨w.heap.size + 1, 0, none⟩ = some (.pointer (some ⟨x.1, 0, none⟩)) ∧ W.cell? ⟨w.heap.size + 1, 1, none⟩ = some (.pointer (some ⟨x.2, 0, none⟩)) ∧ W.cell? ⟨w.heap.size, 0, none⟩ = some (.int .i64 6) ∧ W.cell? ⟨w.heap.size, 4, none⟩ = some (.string s))) := fun W hW => by
    have e1 := (hW.block _ (lt_at hx2)).trans hx2
    have e2 := (hW.block w.heap.size (Nat.lt_of_lt_of_le hww hB2.size)).trans ((hB2.block w.heap.size hww).trans hX1)
    exact ⟨cell_at e1 0, cell_at e1 1, (cell_at e2 0).trans (by rw [hC]; rfl), (cell_at e2 4).trans (by rw [hC]; rfl)⟩
  have HB2 : Hid (Below w.heap.size w W2) := bnext hB1 hB2
  have HX2 : Hid (W2.heap[w.heap.size + 1]? = some (.cells #[.pointer (some ⟨x.1, 0, none⟩), .pointer (some ⟨x.2, 0, none⟩)] 50 (0, 0))) := hx2
  have HW1 : Hid (w.heap.size < W1.heap.size ∧ W1.heap[w.heap.size]? = some (.cells C 45 (0, 0)) ∧ Below W1.heap.size W1 W2) := ⟨hww, hX1, hB2⟩
  have HC : Hid (C = #[.int .i64 6, .int .i64 on, .int .i64 a, .int .i64 b, .string s, .int .u64 n, .int .i64 m0, .int .i64 m1, .int .i64 m2, .int .i64 bv, .int .i64 jv, .int .u64 jb, .int .u64 j0, .int .u64 j1, .int .u64 j2, .int .u64 j3, .string c, .int .u64 nu, .int .i64 cv, .int .u64 cb, .int .u64 c0, .int .u64 c1, .int .u64 c2, .int .u64 c3, .int .u64 sl]) := hC
  clear q0 p0 p1 hX1 hB1 hW1 hx2 hB2 hC qa qb qc qd
  go_region_held3 (fun w' => Below W1.heap.size W1 w' ∧ w'.cell? ⟨q, 0, none⟩ = some (.slice (some ⟨g, off, none⟩) L.members.length cm) ∧ w'.cell? ⟨g, off + i * 2, none⟩ = some (.pointer (some ⟨x.1, 0, none⟩)) ∧ w'.cell? ⟨g, off + i * 2 + 1, none⟩ = some (.pointer (some ⟨x.2, 0, none⟩)) ∧ w'.cell? ⟨w.heap.size, 1, none⟩ = some (.int .i64 on))
    (first | (exact HS.out _ (Below.refl _ _).drew) | (exact HS.out _ (bnext (And.left ‹Below W1.heap.size W1 _ ∧ _›) (below_alloc _ _))) | (exact HS.out _ (bnext (Below.refl _ _).drew (below_alloc _ _))))
    ((go_at_call 10; refine (LP.out _).mono ?_; rintro e w3 ⟨rfl, rfl⟩))
  all_goals (
    rw [← hW2]
    clear ‹_ ∧ _›
    clear hW2 HS LP
    have xs := HX.out W2 (Below.refl _ _)
    obtain ⟨x0, x1, k0, x4⟩ := xs
    have r2 := HR.out W2 HB2.out
    go_wp2_with (go_at_call 13; refine (HV.out _ HB2.out).mono ?_; rintro e w3 ⟨rfl, rfl⟩)
    go_ret
    exact ⟨by simp, HB2.out⟩)
end Go.Proofs.YtkehpnobidendaaGreatDoor
