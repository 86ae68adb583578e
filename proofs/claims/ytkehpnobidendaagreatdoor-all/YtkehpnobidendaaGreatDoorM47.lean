/- The document's Handle (P5). The law's handles (P5 to P7): both sides answer alike, and the situation goes on. The law's forged: the region that picks a letter. The law's forged: what is written into the message, part by part. The law's forged: what is made right of the message, behind the letter. The law's forged: whatever is made right of it, a message comes out. A region that draws its order and whose ONE operation k changes the world, where what is taken first is waited for by k (over a chain of edges): S is asked ahead of k alone. (In the manner of the library's Derived/OrdersHeld.lean, where S is asked behind every operation; its laws on one operation, YieldsIf.wpOp and wpOp_putIf, are used.) -/
import Derived.Test.YtkehpnobidendaaGreatDoorM43
import Derived.Test.YtkehpnobidendaaGreatDoorM45
import Derived.Test.YtkehpnobidendaaGreatDoorM38
import Derived.Test.YtkehpnobidendaaGreatDoorM46
import Derived.Test.YtkehpnobidendaaGreatDoorM39
import Derived.Deep.RegionHeld3
import Derived.Test.YtkehpnobidendaaGreatDoorM05
namespace Go.Proofs.YtkehpnobidendaaGreatDoor
open Go.RowKit
attribute [local go_sem ↓] pload_msg

set_option maxRecDepth 100000 in
set_option maxHeartbeats 4000000 in
theorem rhandle (w : World) (p : Nat) (S : Nat → Prop) (m : Mem) (h : RMem w p S w.heap.size m []) (hI : Inv m) (x : Msg) (hx : x.Ok) (v0 : -9223372036854775808 ≤ x.view) (v1 : x.view ≤ 9223372036854775807) (hlog : m.log.length + m.blocks.length + 3 ≤ 1700000000000) (hvl : m.votes.length ≤ 1700000000000) (hen : m.enters.length ≤ 1700000000000) (hpr : m.proposed.length ≤ 1700000000000) :
    Calls Tryz.prog 46 #[.pointer (some ⟨p, 0, none⟩), .agg x.cells.toArray] w fun e w' => ∃ a cap, e = .returned (.tuple #[.slice a (m.handle x).2.1.length cap, .int .i64 (m.handle x).2.2]) ∧ Gave w w' p S w.heap.size (m.handle x).1 (.slice a (m.handle x).2.1.length cap) (m.handle x).2.1 := by
  have htk := takes_all m x
  have hti := inv_takes hI x hx
  have HPR : Hid (x.kind = 1 → ∀ W, Below w.heap.size w W → Calls Tryz.prog 66 #[.pointer (some ⟨p, 0, none⟩), .agg x.cells.toArray] W fun e w' => e = .returned (.int .i64 (m.takes x).2.2) ∧ ∃ S', RMem w' p S' w.heap.size (m.takes x).1 (m.takes x).2.1 ∧ Grow S W S' ∧ Fr S W w') := fun hk W hW => by
    have h1 := rproposal W p S m w.heap.size hW.size [] (by decide) (h.below hW) hI x hx v0 v1 hlog
    have e : m.takes x = m.proposal x := by unfold Mem.takes; exact if_pos hk
    rw [e]
    simpa using h1
  have HVO : Hid (x.kind = 2 → ∀ W, Below w.heap.size w W → Calls Tryz.prog 67 #[.pointer (some ⟨p, 0, none⟩), .agg x.cells.toArray] W fun e w' => e = .returned (.int .i64 (m.takes x).2.2) ∧ ∃ S', RMem w' p S' w.heap.size (m.takes x).1 (m.takes x).2.1 ∧ Grow S W S' ∧ Fr S W w') := fun hk W hW => by
    have h1 := rvote W p S m w.heap.size [] (h.below hW) hI x hx.n v0 v1 (by omega) hvl
    have e : m.takes x = ((m.vote x).1, [], (m.vote x).2) := by unfold Mem.takes; rw [if_neg (by rw [hk]; decide), if_pos hk]
    rw [e]
    exact h1
  have HEN : Hid (x.kind = 3 → ∀ W, Below w.heap.size w W → Calls Tryz.prog 68 #[.pointer (some ⟨p, 0, none⟩), .agg x.cells.toArray] W fun e w' => e = .returned (.int .i64 (m.takes x).2.2) ∧ ∃ S', RMem w' p S' w.heap.size (m.takes x).1 (m.takes x).2.1 ∧ Grow S W S' ∧ Fr S W w') := fun hk W hW => by
    have h1 := renters W p S m w.heap.size [] (h.below hW) hI x hx v0 v1 (by omega) hen
    have e : m.takes x = ((m.enters1 x).1, [], (m.enters1 x).2) := by unfold Mem.takes; rw [if_neg (by rw [hk]; decide), if_neg (by rw [hk]; decide), if_pos hk]
    rw [e]
    exact h1
  have HNO : Hid (x.kind ≠ 1 → x.kind ≠ 2 → x.kind ≠ 3 → m.takes x = (m, [], 1)) := fun a b c => by unfold Mem.takes; rw [if_neg a, if_neg b, if_neg c]
  have HRM : Hid (∀ W, Below w.heap.size w W → RMem W p S w.heap.size m []) := fun W hW => h.below hW
  have hbl := htk.b
  have hpp : (m.takes x).1.proposed.length ≤ 1700000000000 := by rw [htk.p]; exact hpr
  have HED : Hid (∀ W S1, w.heap.size ≤ W.heap.size → RMem W p S1 w.heap.size (m.takes x).1 (m.takes x).2.1 → Calls Tryz.prog 42 #[.pointer (some ⟨p, 0, none⟩)] W fun e w' => ∃ v, e = .returned v ∧ Gave W w' p S1 w.heap.size (m.handle x).1 v (m.handle x).2.1) := fun W S1 a1 a2 => rends W p S1 (m.takes x).1 w.heap.size a1 (m.takes x).2.1 a2 hti.i0 hti.i1 (by have := hti.v0; omega) hti.v1 (by omega) hpp (by have := takes_out m x; omega) hti.hi.ok hti.qc
  have HHH : Hid ((m.handle x).2.2 = (m.takes x).2.2) := rfl
  clear h hI hx htk hti hlog hvl hen hpr hbl hpp
  generalize m.handle x = H at *
  generalize m.takes x = T at *
  obtain ⟨xk, xf, xv, ⟨bv, ⟨jv, jb, j0, j1, j2, j3⟩, bcm⟩, xn, ⟨cv, cb, c0, c1, c2, c3⟩, xs⟩ := x
  dsimp only [Msg.cells] at *
  obtain ⟨W1, hW1⟩ : ∃ W, W = w.alloc (.cells #[.int .i64 xk, .int .i64 xf, .int .i64 xv, .int .i64 bv, .int .i64 jv, .int .u64 jb, .int .u64 j0, .int .u64 j1, .int .u64 j2, .int .u64 j3, .string bcm, .int .u64 xn, .int .i64 cv, .int .u64 cb, .int .u64 c0, .int .u64 c1, .int .u64 c2, .int .u64 c3, .int .u64 xs] 43) := ⟨_, rfl⟩
  have HB1 : Hid (Below w.heap.size w W1) := by rw [hW1]; exact below_alloc _ _
  have HX1 : Hid (W1.heap[w.heap.size]? = some (.cells #[.int .i64 xk, .int .i64 xf, .int .i64 xv, .int .i64 bv, .int .i64 jv, .int .u64 jb, .int .u64 j0, .int .u64 j1, .int .u64 j2, .int .u64 j3, .string bcm, .int .u64 xn, .int .i64 cv, .int .u64 cb, .int .u64 c0, .int .u64 c1, .int .u64 c2, .int .u64 c3, .int .u64 xs] 43 (0, 0))) := by rw [hW1]; exact heap_alloc_new w _
  have hlm : (rowVar 43 ⟨w.heap.size, 0, none⟩).run Tryz.prog W1 = .ok (.agg #[.int .i64 xk, .int .i64 xf, .int .i64 xv, .int .i64 bv, .int .i64 jv, .int .u64 jb, .int .u64 j0, .int .u64 j1, .int .u64 j2, .int .u64 j3, .string bcm, .int .u64 xn, .int .i64 cv, .int .u64 cb, .int .u64 c0, .int .u64 c1, .int .u64 c2, .int .u64 c3, .int .u64 xs]) W1 := rowVar_whole _ w.heap.size 43 43 _ (0, 0) _ HX1.out Tryz.underlying43 rfl (by kernel_rfl)
  have a0 : W1.cell? ⟨w.heap.size, 0, none⟩ = some (.int .i64 xk) := cell_at HX1.out 0
  have HFI : Hid (∀ w2 w3 S2 v, Grow S W1 S2 → Fr S W1 w2 → Gave w2 w3 p S2 w.heap.size H.1 v H.2.1 → ∃ a cap, v = .slice a H.2.1.length cap ∧ Gave w w3 p S w.heap.size H.1 v H.2.1) := fun w2 w3 S2 v g2 f2 hg => by
    obtain ⟨S3, z1, z2, z3, z4⟩ := hg.ex
    obtain ⟨a, cap, rfl⟩ := z4.isSlice
    have gw : Grow S w S2 := fun k hk => (g2 k hk).imp id (fun h => Nat.le_trans HB1.out.size h)
    have fw : Fr S w w2 := (Fr.of_below HB1.out).trans f2 (fun _ h => .inl h)
    exact ⟨a, cap, rfl, S3, z1, gw.trans fw.size z2, fw.grow gw z3, z4⟩
  go_enter Tryz.func46, Tryz.ntmps46
  go_upto_region 1 with fail
  rw [← hW1]
  clear hW1
  have hsz : w.heap.size ≤ W1.heap.size := HB1.out.size
  by_cases k1 : xk = 1
  · have HC : Hid (Calls Tryz.prog 66 #[.pointer (some ⟨p, 0, none⟩), .agg #[.int .i64 xk, .int .i64 xf, .int .i64 xv, .int .i64 bv, .int .i64 jv, .int .u64 jb, .int .u64 j0, .int .u64 j1, .int .u64 j2, .int .u64 j3, .string bcm, .int .u64 xn, .int .i64 cv, .int .u64 cb, .int .u64 c0, .int .u64 c1, .int .u64 c2, .int .u64 c3, .int .u64 xs]] W1 fun e w' => e = .returned (.int .i64 T.2.2) ∧ ∃ S', RMem w' p S' w.heap.size T.1 T.2.1 ∧ Grow S W1 S' ∧ Fr S W1 w') := HPR.out k1 W1 HB1.out
    have kb : (xk == 1) = true := by simp [k1]
    clear k1
    go_wp2_with (first
      | (go_at_call 66; refine HC.out.mono ?_; rintro e w2 ⟨rfl, S2, hm2, hg2, hf2⟩)
      | (go_at_call 42; refine (HED.out w2 S2 (Nat.le_trans hsz hf2.size) hm2).mono ?_; rintro e w3 ⟨v, rfl, hgv⟩; obtain ⟨a, cap, rfl, hgw⟩ := HFI.out w2 w3 S2 v hg2 hf2 hgv))
    go_ret2
    rw [HHH.out]
    exact ⟨a, cap, rfl, hgw⟩
  by_cases k2 : xk = 2
  · have HC : Hid (Calls Tryz.prog 67 #[.pointer (some ⟨p, 0, none⟩), .agg #[.int .i64 xk, .int .i64 xf, .int .i64 xv, .int .i64 bv, .int .i64 jv, .int .u64 jb, .int .u64 j0, .int .u64 j1, .int .u64 j2, .int .u64 j3, .string bcm, .int .u64 xn, .int .i64 cv, .int .u64 cb, .int .u64 c0, .int .u64 c1, .int .u64 c2, .int .u64 c3, .int .u64 xs]] W1 fun e w' => e = .returned (.int .i64 T.2.2) ∧ ∃ S', RMem w' p S' w.heap.size T.1 T.2.1 ∧ Grow S W1 S' ∧ Fr S W1 w') := HVO.out k2 W1 HB1.out
    have kb1 : (xk == 1) = false := by simp [k2]
    have kb : (xk == 2) = true := by simp [k2]
    clear k1 k2
    go_wp2_with (first
      | (go_at_call 67; refine HC.out.mono ?_; rintro e w2 ⟨rfl, S2, hm2, hg2, hf2⟩)
      | (go_at_call 42; refine (HED.out w2 S2 (Nat.le_trans hsz hf2.size) hm2).mono ?_; rintro e w3 ⟨v, rfl, hgv⟩; obtain ⟨a, cap, rfl, hgw⟩ := HFI.out w2 w3 S2 v hg2 hf2 hgv))
    go_ret2
    rw [HHH.out]
    exact ⟨a, cap, rfl, hgw⟩
  by_cases k3 : xk = 3
  · have HC : Hid (Calls Tryz.prog 68 #[.pointer (some ⟨p, 0, none⟩), .agg #[.int .i64 xk, .int .i64 xf, .int .i64 xv, .int .i64 bv, .int .i64 jv, .int .u64 jb, .int .u64 j0, .int .u64 j1, .int .u64 j2, .int .u64 j3, .string bcm, .int .u64 xn, .int .i64 cv, .int .u64 cb, .int .u64 c0, .int .u64 c1, .int .u64 c2, .int .u64 c3, .int .u64 xs]] W1 fun e w' => e = .returned (.int .i64 T.2.2) ∧ ∃ S', RMem w' p S' w.heap.size T.1 T.2.1 ∧ Grow S W1 S' ∧ Fr S W1 w') := HEN.out k3 W1 HB1.out
    have kb1 : (xk == 1) = false := by simp [k3]
    have kb2 : (xk == 2) = false := by simp [k3]
    have kb : (xk == 3) = true := by simp [k3]
    clear k1 k2 k3
    go_wp2_with (first
      | (go_at_call 68; refine HC.out.mono ?_; rintro e w2 ⟨rfl, S2, hm2, hg2, hf2⟩)
      | (go_at_call 42; refine (HED.out w2 S2 (Nat.le_trans hsz hf2.size) hm2).mono ?_; rintro e w3 ⟨v, rfl, hgv⟩; obtain ⟨a, cap, rfl, hgw⟩ := HFI.out w2 w3 S2 v hg2 hf2 hgv))
    go_ret2
    rw [HHH.out]
    exact ⟨a, cap, rfl, hgw⟩
  · have hT := HNO.out k1 k2 k3
    subst hT
    have kb1 : (xk == 1) = false := by simp [k1]
    have kb2 : (xk == 2) = false := by simp [k2]
    have kb3 : (xk == 3) = false := by simp [k3]
    have HR1 : Hid (RMem W1 p S w.heap.size m []) := HRM.out W1 HB1.out
    clear k1 k2 k3
    go_wp2_with (go_at_call 42; refine (HED.out W1 S hsz HR1.out).mono ?_; rintro e w3 ⟨v, rfl, hgv⟩; obtain ⟨a, cap, rfl, hgw⟩ := HFI.out W1 w3 S v (Grow.refl _ _) (Fr.refl _ _) hgv)
    go_ret2
    rw [HHH.out]
    exact ⟨a, cap, rfl, hgw⟩
end Go.Proofs.YtkehpnobidendaaGreatDoor

namespace Go.Proofs.YtkehpnobidendaaGreatDoor
open Go.RowKit
attribute [local go_sem ↓] pload_msg

/-- The law has met the block of a proposal, or nothing. -/
structure Mid (w0 W : World) (q : Nat) (L : Law) (ms : List Mem) (n : Nat) (A : Nat → Nat → Prop) (N : Nat) (L' : Law) (A' : Nat → Nat → Prop) : Prop where
  s : SitA w0 W q L' ms (n + 1) A'
  k : LKeep L L'
  b : L'.blocks.length ≤ L.blocks.length + 1
  a : ∀ c k, A' c k → A c k ∨ N ≤ k
theorem LMem.overs {w : World} {q : Nat} {S : Nat → Prop} {L : Law} (h : LMem w q S L) : w.cell? ⟨q, 3, none⟩ = some (.bool L.over) := by
  obtain ⟨vm, vl, vb, vt, vs, vo, vn, hb⟩ := h.ex
  exact cell_at hb.box 3
set_option maxRecDepth 100000 in
set_option maxHeartbeats 4000000 in
theorem lhandles {w0 w : World} {q n : Nat} {L : Law} {ms : List Mem} {A : Nat → Nat → Prop} (h : SitA w0 w q L ms n A) (hn : n ≤ 660000000000) {i : Nat} {x : Nat × Nat} {m : Mem} (hx : L.members[i]? = some x) (hm : ms[i]? = some m) (X : Msg) (hX : X.Ok) (v0 : -9223372036854775808 ≤ X.view) (v1 : X.view ≤ 9223372036854775807) :
    Calls Tryz.prog 21 #[.pointer (some ⟨q, 0, none⟩), .agg #[.pointer (some ⟨x.1, 0, none⟩), .pointer (some ⟨x.2, 0, none⟩)], .agg X.cells.toArray] w fun e w' => e = .returned (.bool true) ∧ Goes w0 w' q (n + 1) ∧ ∀ k, k < w.heap.size → (∀ c, ¬ A c k) → w'.heap[k]? = w.heap[k]? := by
  have ml := (h.mem i x m hx hm).ml
  have HML : Hid (MLim m n) := ml
  have sm := ml.small (by omega)
  have lg := log_len ml.inv
  have b1 := ml.bl
  have b2 := ml.pd.len
  have b3 := ml.vt
  have b4 := ml.en
  have lm := h.lim
  have c1 := lm.c1
  have c2 := lm.ou
  have c3 := lm.om
  have c4 := lm.bl
  have HPH : Hid (∀ W P, PMem W x.1 P m → Calls Tryz.prog 45 #[.pointer (some ⟨x.1, 0, none⟩), .agg X.cells.toArray] W fun e w' => ∃ a cap, e = .returned (.tuple #[.slice a (m.handle X).2.1.length cap, .int .i64 (m.handle X).2.2]) ∧ PGaveG W w' x.1 P (m.handle X).1 a cap (m.handle X).2.1) := fun W P hp => phandle W x.1 P m hp ml.inv ml.i2 X hX sm
  have HRH : Hid (∀ W R, RMem W x.2 R W.heap.size m [] → Calls Tryz.prog 46 #[.pointer (some ⟨x.2, 0, none⟩), .agg X.cells.toArray] W fun e w' => ∃ a cap, e = .returned (.tuple #[.slice a (m.handle X).2.1.length cap, .int .i64 (m.handle X).2.2]) ∧ Gave W w' x.2 R W.heap.size (m.handle X).1 (.slice a (m.handle X).2.1.length cap) (m.handle X).2.1) := fun W R hr => rhandle W x.2 R m hr ml.inv X hX v0 v1 (by omega) (by omega) (by omega) (by omega)
  have HLL : Hid (∀ L' W v1 v2 S R1 R2, LKeep L L' → L'.Ok → L'.letters.length ≤ 2000 → L'.blocks.length ≤ L.blocks.length + 1 → LMem W q S L' → Row W R1 67 20 v1 (m.handle X).2.1.length ((m.handle X).2.1.flatMap Ltr.cells) → Row W R2 67 20 v2 (m.handle X).2.1.length ((m.handle X).2.1.flatMap Ltr.cells) → (∀ k, R1 k → ¬ S k) → (∀ k, R2 k → ¬ S k ∧ ¬ R1 k) → Calls Tryz.prog 20 #[.pointer (some ⟨q, 0, none⟩), v1, v2] W fun e w' => e = .returned (.bool true) ∧ Heard W w' q S L' v1 (m.handle X).2.1) := fun L' W v1 v2 S R1 R2 kp ok le bl a1 a2 a3 a4 a5 => lletters W q S R1 R2 L' a1 v1 v2 (m.handle X).2.1 a2 a3 a4 a5 (by have := handle_two m X; omega) (fun l hl _ => (handle_lok ml.inv X hX l hl).1.b) ok le (by omega) (by rw [kp.co]; exact lm.c0) (by rw [kp.co]; omega) (by rw [kp.ou]; omega) (by rw [kp.om]; omega)
  have HGO : Hid (∀ L' A' W w5, Mid w0 W q L ms n A (w.heap.size + 2) L' A' → Went W w5 x q (A' (2 * i + 2)) (A' (2 * i + 3)) (A' 0) L' (m.handle X).1 (m.handle X).2.1 → Goes w0 w5 q (n + 1)) := fun L' A' W w5 md wt => md.s.went (by rw [md.k.me]; exact hx) wt (Nat.le_refl _) (mlim_handle ml X hX) (handle_lok ml.inv X hX) (by rw [md.k.co]; omega) (by rw [md.k.ou]; omega) (by rw [md.k.om]; omega) (by have := md.b; have := handle_props m X; omega)
  have HMS : Hid (∀ L' A' W, Mid w0 W q L ms n A (w.heap.size + 2) L' A' → MSit W A' i x m (n + 1) ∧ (∀ k, A' (2 * i + 2) k → ¬ A' (2 * i + 3) k) ∧ (∀ k, A' 0 k → ¬ A' (2 * i + 2) k ∧ ¬ A' (2 * i + 3) k) ∧ ¬ A' (2 * i + 3) 0 ∧ (∀ c k, A' c k → k < W.heap.size)) := fun L' A' W md =>
    ⟨md.s.mem i x m (by rw [md.k.me]; exact hx) hm, fun k h1 h2 => (by have := md.s.own _ _ _ h1 h2; omega), fun k h0 => ⟨fun h1 => by have := md.s.own _ _ _ h0 h1; omega, fun h1 => by have := md.s.own _ _ _ h0 h1; omega⟩, fun h0 => by have := (md.s.bnd _ _ h0).1; have := md.s.tab.pos; omega, fun c k hk => (md.s.bnd c k hk).2⟩
  have HAB : Hid (∀ c k, A c k → k < w.heap.size) := fun c k hk => (h.bnd c k hk).2
  have HMI : Hid (∀ W, Below w.heap.size w W → W.heap.size = w.heap.size + 2 → ∃ L' A', Mid w0 W q L ms n A (w.heap.size + 2) L' A') := fun W hW _ => ⟨L, A, (h.quiet hW).mono (by omega), ⟨rfl, rfl, rfl, rfl, rfl, rfl⟩, by omega, fun c k hk => .inl hk⟩
  have HMT : Hid (∀ W, Below w.heap.size w W → W.heap.size = w.heap.size + 2 → Calls Tryz.prog 44 #[.pointer (some ⟨q, 0, none⟩), .agg X.block.cells.toArray] W fun e w' => e = .returned (.tuple #[]) ∧ (∃ L' A', Mid w0 w' q L ms n A (w.heap.size + 2) L' A') ∧ Fr (A 0) W w') := fun W hW hz => by
    have hq := h.quiet hW
    refine (lmeets W q (A 0) L hq.law X.block hX.b lm.ok (by omega)).mono ?_
    rintro e w' ⟨he, S', h1, h2, h3⟩
    obtain ⟨A', hA, hB⟩ := hq.met hX.b h1 h2 h3
    exact ⟨he, ⟨L.meets X.block, A', hA, meets_keep L X.block, (meets_len L X.block).1, fun c k hk => by rw [← hz]; exact hB c k hk⟩, h3⟩
  clear h ml sm lg b1 b2 b3 b4 lm c1 c2 c3 c4 hX v0 v1 HML hx hm hn
  generalize m.handle X = H at *
  obtain ⟨xk, xf, xv, ⟨bv, ⟨jv, jb, j0, j1, j2, j3⟩, bcm⟩, xn, ⟨cv, cb, c0, c1, c2, c3⟩, xs⟩ := X
  dsimp only [Msg.cells, Blk.cells] at *
  obtain ⟨W1, hW1⟩ : ∃ W, W = (w.alloc (.cells #[.pointer (some ⟨x.1, 0, none⟩), .pointer (some ⟨x.2, 0, none⟩)] 50)).alloc (.cells #[.int .i64 xk, .int .i64 xf, .int .i64 xv, .int .i64 bv, .int .i64 jv, .int .u64 jb, .int .u64 j0, .int .u64 j1, .int .u64 j2, .int .u64 j3, .string bcm, .int .u64 xn, .int .i64 cv, .int .u64 cb, .int .u64 c0, .int .u64 c1, .int .u64 c2, .int .u64 c3, .int .u64 xs] 43) := ⟨_, rfl⟩
  have hz1 : (w.alloc (.cells #[.pointer (some ⟨x.1, 0, none⟩), .pointer (some ⟨x.2, 0, none⟩)] 50)).heap.size = w.heap.size + 1 := by simp
  have HB1 : Hid (Below w.heap.size w W1) := by rw [hW1]; exact bnext (below_alloc _ _) (below_alloc _ _)
  have HZ1 : Hid (W1.heap.size = w.heap.size + 2) := by show _ = _; rw [hW1]; simp
  have HX1 : Hid (W1.heap[w.heap.size]? = some (.cells #[.pointer (some ⟨x.1, 0, none⟩), .pointer (some ⟨x.2, 0, none⟩)] 50 (0, 0))) := by rw [hW1]; exact (Below.heap_alloc _ _ _ (by simp)).trans (heap_alloc_new w _)
  have HY1 : Hid (W1.heap[w.heap.size + 1]? = some (.cells #[.int .i64 xk, .int .i64 xf, .int .i64 xv, .int .i64 bv, .int .i64 jv, .int .u64 jb, .int .u64 j0, .int .u64 j1, .int .u64 j2, .int .u64 j3, .string bcm, .int .u64 xn, .int .i64 cv, .int .u64 cb, .int .u64 c0, .int .u64 c1, .int .u64 c2, .int .u64 c3, .int .u64 xs] 43 (0, 0))) := by rw [hW1, ← hz1]; exact heap_alloc_new _ _
  have HTL : Hid (∀ L' A' W, Mid w0 W q L ms n A (w.heap.size + 2) L' A' → W.heap[w.heap.size]? = some (.cells #[.pointer (some ⟨x.1, 0, none⟩), .pointer (some ⟨x.2, 0, none⟩)] 50 (0, 0)) → W.heap[w.heap.size + 1]? = some (.cells #[.int .i64 xk, .int .i64 xf, .int .i64 xv, .int .i64 bv, .int .i64 jv, .int .u64 jb, .int .u64 j0, .int .u64 j1, .int .u64 j2, .int .u64 j3, .string bcm, .int .u64 xn, .int .i64 cv, .int .u64 cb, .int .u64 c0, .int .u64 c1, .int .u64 c2, .int .u64 c3, .int .u64 xs] 43 (0, 0)) → ∀ w3, Fr (A' (2 * i + 2)) W w3 → w3.heap[w.heap.size]? = some (.cells #[.pointer (some ⟨x.1, 0, none⟩), .pointer (some ⟨x.2, 0, none⟩)] 50 (0, 0)) ∧ w3.heap[w.heap.size + 1]? = some (.cells #[.int .i64 xk, .int .i64 xf, .int .i64 xv, .int .i64 bv, .int .i64 jv, .int .u64 jb, .int .u64 j0, .int .u64 j1, .int .u64 j2, .int .u64 j3, .string bcm, .int .u64 xn, .int .i64 cv, .int .u64 cb, .int .u64 c0, .int .u64 c1, .int .u64 c2, .int .u64 c3, .int .u64 xs] 43 (0, 0))) := fun L' A' W md b4 b5 w3 f3 =>
    ⟨f3.box b4 (fun hk => (md.a _ _ hk).elim (fun h => by have := HAB.out _ _ h; omega) (fun h => by omega)), f3.box b5 (fun hk => (md.a _ _ hk).elim (fun h => by have := HAB.out _ _ h; omega) (fun h => by omega))⟩
  have HRV : Hid (∀ W : World, W.heap[w.heap.size + 1]? = some (.cells #[.int .i64 xk, .int .i64 xf, .int .i64 xv, .int .i64 bv, .int .i64 jv, .int .u64 jb, .int .u64 j0, .int .u64 j1, .int .u64 j2, .int .u64 j3, .string bcm, .int .u64 xn, .int .i64 cv, .int .u64 cb, .int .u64 c0, .int .u64 c1, .int .u64 c2, .int .u64 c3, .int .u64 xs] 43 (0, 0)) → (rowVar 43 ⟨w.heap.size + 1, 0, none⟩).run Tryz.prog W = .ok (.agg #[.int .i64 xk, .int .i64 xf, .int .i64 xv, .int .i64 bv, .int .i64 jv, .int .u64 jb, .int .u64 j0, .int .u64 j1, .int .u64 j2, .int .u64 j3, .string bcm, .int .u64 xn, .int .i64 cv, .int .u64 cb, .int .u64 c0, .int .u64 c1, .int .u64 c2, .int .u64 c3, .int .u64 xs]) W) := fun W hW => rowVar_whole _ (w.heap.size + 1) 43 43 _ (0, 0) _ hW Tryz.underlying43 rfl (by kernel_rfl)
  have HFN : Hid (∀ L' A' W w3 w4 w5 a1 cp1 a2 cp2, Mid w0 W q L ms n A (w.heap.size + 2) L' A' → PGaveG W w3 x.1 (A' (2 * i + 2)) H.1 a1 cp1 H.2.1 → Gave w3 w4 x.2 (A' (2 * i + 3)) w3.heap.size H.1 (.slice a2 H.2.1.length cp2) H.2.1 → Heard w4 w5 q (A' 0) L' (.slice a1 H.2.1.length cp1) H.2.1 → Goes w0 w5 q (n + 1)) := fun L' A' W w3 w4 w5 a1 cp1 a2 cp2 md g3 g4 hd => by
    obtain ⟨hM, hPR, hS, h00, hlt⟩ := HMS.out L' A' W md
    obtain ⟨P', p3, gp, r3⟩ := g3.ex
    have f3 := g3.fr
    obtain ⟨S2, m4, gr, f4, r4⟩ := g4.ex
    have s3 := f3.size
    have s4 := f4.size
    refine HGO.out L' A' W w5 md ⟨w4, (.slice a1 H.2.1.length cp1), P', S2, p3.fr f4 (fun k hk hR => (gp k hk).elim (fun h => hPR k h hR) (fun h => by have := hlt _ _ hR; omega)) h00, m4, gp, fun k hk => (gr k hk).imp id (fun h => by omega), (f3.mono (fun _ h => .inl h)).trans (f4.mono (fun _ h => .inr h)) (fun _ h => .inl h), fun k h1 h2 => (gr k h2).elim (fun h => (gp k h1).elim (fun h' => hPR k h' h) (fun h' => by have := hlt _ _ h; omega)) (fun h => by have := p3.lt k h1; omega), fun k hk => ?_, hd⟩
    have hb := r3.ownS hk
    have h1 := hb.1.1
    have h2 := hb.2
    exact ⟨h1, by omega, hb.1.2, fun h => (gr k h).elim (fun h => by have := hlt _ _ h; omega) (fun h => by omega)⟩
  have HLT : Hid (∀ L' A' W w3 w4 a1 cp1 a2 cp2, w.heap.size ≤ W.heap.size → (∀ k, k < w.heap.size → (∀ c, ¬ A c k) → W.heap[k]? = w.heap[k]?) → Mid w0 W q L ms n A (w.heap.size + 2) L' A' → PGaveG W w3 x.1 (A' (2 * i + 2)) H.1 a1 cp1 H.2.1 → Gave w3 w4 x.2 (A' (2 * i + 3)) w3.heap.size H.1 (.slice a2 H.2.1.length cp2) H.2.1 → Calls Tryz.prog 20 #[.pointer (some ⟨q, 0, none⟩), .slice a1 H.2.1.length cp1, .slice a2 H.2.1.length cp2] w4 fun e w' => e = .returned (.bool true) ∧ Goes w0 w' q (n + 1) ∧ ∀ k, k < w.heap.size → (∀ c, ¬ A c k) → w'.heap[k]? = w.heap[k]?) := fun L' A' W w3 w4 a1 cp1 a2 cp2 hWs hU md g3 g4 => by
    obtain ⟨hM, hPR, hS, h00, hlt⟩ := HMS.out L' A' W md
    obtain ⟨P', p3, gp, r3⟩ := g3.ex
    have f3 := g3.fr
    obtain ⟨S2, m4, gr, f4, r4⟩ := g4.ex
    have s3 := f3.size
    have s4 := f4.size
    refine (HLL.out L' w4 (.slice a1 H.2.1.length cp1) (.slice a2 H.2.1.length cp2) (A' 0) (fun k => W.heap.size ≤ k ∧ k < w3.heap.size) (fun k => w3.heap.size ≤ k ∧ ¬ S2 k) md.k md.s.lim.ok md.s.lim.le md.b ((md.s.law.fr f3 (fun k hk => (hS k hk).1)).fr f4 (fun k hk => (hS k hk).2)) ((r3.reown (fun k hk => ⟨(r3.ownS hk).1.1, (r3.ownS hk).2⟩)).same (fun k hk hl => ⟨f4.block k hl (fun h => by have h1 := hlt _ _ h; omega), hk⟩)) r4 (fun k hk hS' => by have h1 := hlt _ _ hS'; omega) (fun k hk => ⟨fun hS' => by have h1 := hlt _ _ hS'; omega, fun h => by omega⟩)).mono ?_
    rintro e w5 ⟨rfl, hd⟩
    refine ⟨rfl, HFN.out L' A' W w3 w4 w5 a1 cp1 a2 cp2 md g3 g4 hd, fun k hk hA => ?_⟩
    have nA : ∀ c, ¬ A' c k := fun c hc => (md.a c k hc).elim (hA c) (fun h => by omega)
    obtain ⟨S', T, rs, _, _, _, hf5, _⟩ := hd.ex
    exact (hf5.block k (by omega) (fun h => h.elim (nA 0) (fun hv => by have := (r3.ownS hv).1.1; omega))).trans ((f4.block k (by omega) (nA _)).trans ((f3.block k (by omega) (nA _)).trans (hU k hk hA)))
  clear HFN HGO HLL
  go_enter Tryz.func21, Tryz.ntmps21
  go_upto_region 1 with fail
  rw [← hW1]
  clear hW1 hz1
  have a0 : W1.cell? ⟨w.heap.size + 1, 0, none⟩ = some (.int .i64 xk) := cell_at HY1.out 0
  go_upto_if 14 with fail
  go_cut [] (fun W => ∃ L' A', Hid (Mid w0 W q L ms n A (w.heap.size + 2) L' A') ∧ Hid (∀ k, k < w.heap.size → (∀ c, ¬ A c k) → W.heap[k]? = w.heap[k]?) ∧ Hid (W.heap[w.heap.size]? = some (.cells #[.pointer (some ⟨x.1, 0, none⟩), .pointer (some ⟨x.2, 0, none⟩)] 50 (0, 0))) ∧ Hid (W.heap[w.heap.size + 1]? = some (.cells #[.int .i64 xk, .int .i64 xf, .int .i64 xv, .int .i64 bv, .int .i64 jv, .int .u64 jb, .int .u64 j0, .int .u64 j1, .int .u64 j2, .int .u64 j3, .string bcm, .int .u64 xn, .int .i64 cv, .int .u64 cb, .int .u64 c0, .int .u64 c1, .int .u64 c2, .int .u64 c3, .int .u64 xs] 43 (0, 0))))
  case first =>
    by_cases k1 : xk = 1
    · have kb : (xk == 1) = true := by simp [k1]
      have a3 : W1.cell? ⟨w.heap.size + 1, 3, none⟩ = some (.int .i64 bv) := cell_at HY1.out 3
      have a4 : W1.cell? ⟨w.heap.size + 1, 4, none⟩ = some (.int .i64 jv) := cell_at HY1.out 4
      have a5 : W1.cell? ⟨w.heap.size + 1, 5, none⟩ = some (.int .u64 jb) := cell_at HY1.out 5
      have a6 : W1.cell? ⟨w.heap.size + 1, 6, none⟩ = some (.int .u64 j0) := cell_at HY1.out 6
      have a7 : W1.cell? ⟨w.heap.size + 1, 7, none⟩ = some (.int .u64 j1) := cell_at HY1.out 7
      have a8 : W1.cell? ⟨w.heap.size + 1, 8, none⟩ = some (.int .u64 j2) := cell_at HY1.out 8
      have a9 : W1.cell? ⟨w.heap.size + 1, 9, none⟩ = some (.int .u64 j3) := cell_at HY1.out 9
      have a10 : W1.cell? ⟨w.heap.size + 1, 10, none⟩ = some (.string bcm) := cell_at HY1.out 10
      clear k1
      go_wp2_with (go_at_call 44; refine (HMT.out W1 HB1.out HZ1.out).mono ?_; rintro e w2 ⟨rfl, ⟨L2, A2, hmd⟩, hf2⟩; have HMD : Hid (Mid w0 w2 q L ms n A (w.heap.size + 2) L2 A2) := hmd; have HF2 : Hid (Fr (A 0) W1 w2) := hf2; clear hmd hf2)
      go_meet
      case rel => exact ⟨L2, A2, HMD.out, (fun k hk hA => (HF2.out.block k (Nat.lt_of_lt_of_le hk HB1.out.size) (hA 0)).trans (HB1.out.block k hk)), HF2.out.box HX1.out (fun hk => by have := HAB.out _ _ hk; omega), HF2.out.box HY1.out (fun hk => by have := HAB.out _ _ hk; omega)⟩
    · have kb : (xk == 1) = false := by simp [k1]
      clear k1
      go_wp2
      go_meet
      case rel =>
        obtain ⟨L2, A2, hmd⟩ := HMI.out W1 HB1.out HZ1.out
        exact ⟨L2, A2, hmd, (fun k hk _ => HB1.out.block k hk), HX1.out, HY1.out⟩
  case rest =>
    obtain ⟨L2, A2, HMD, HU2, HX2, HY2⟩ := hcut
    clear a0 HMT HMI HX1 HY1 HB1 HZ1
    have hov := HMD.out.s.law.overs
    have ov := L2.over
    cases hv : L2.over with
    | true =>
      rw [hv] at hov
      go_wp2
      go_ret
      exact ⟨rfl, ⟨L2, ms, A2, HMD.out.s⟩, HU2.out⟩
    | false =>
      rw [hv] at hov
      have e0 : wc.cell? ⟨w.heap.size, 0, none⟩ = some (.pointer (some ⟨x.1, 0, none⟩)) := cell_at HX2.out 0
      have hlm := HRV.out wc HY2.out
      go_upto_region 6 with (go_at_call 45; refine (HPH.out wc (A2 (2 * i + 2)) (HMS.out L2 A2 wc HMD.out).1.pm).mono ?_; rintro e w3 ⟨a1, cp1, rfl, hg3⟩; have HG3 : Hid (PGaveG wc w3 x.1 (A2 (2 * i + 2)) H.1 a1 cp1 H.2.1) := hg3; clear hg3)
      clear hov e0 hlm
      have ht3 := HTL.out L2 A2 wc HMD.out HX2.out HY2.out w3 HG3.out.fr
      have e1 : w3.cell? ⟨w.heap.size, 1, none⟩ = some (.pointer (some ⟨x.2, 0, none⟩)) := cell_at ht3.1 1
      have hlm := HRV.out w3 ht3.2
      clear ht3
      go_upto_region 7 with (go_at_call 46; refine (HRH.out w3 (A2 (2 * i + 3)) (((HMS.out L2 A2 wc HMD.out).1.rm.rest _).fr HG3.out.fr (fun k hk hp => (HMS.out L2 A2 wc HMD.out).2.1 k hp hk))).mono ?_; rintro e w4 ⟨a2, cp2, rfl, hg4⟩; have HG4 : Hid (Gave w3 w4 x.2 (A2 (2 * i + 3)) w3.heap.size H.1 (.slice a2 H.2.1.length cp2) H.2.1) := hg4; clear hg4)
      clear e1 hlm
      have hee : (H.2.2 == H.2.2) = true := by simp
      go_wp2_with (go_at_call 20; refine (HLT.out L2 A2 wc w3 w4 a1 cp1 a2 cp2 (Nat.le_of_lt (lt_at HX2.out)) HU2.out HMD.out HG3.out HG4.out).mono ?_; rintro e w5 ⟨rfl, hgo⟩; have HGW : Hid (Goes w0 w5 q (n + 1) ∧ ∀ k, k < w.heap.size → (∀ c, ¬ A c k) → w5.heap[k]? = w.heap[k]?) := hgo; clear hgo)
      go_ret
      exact ⟨rfl, HGW.out⟩
end Go.Proofs.YtkehpnobidendaaGreatDoor

namespace Go.Proofs.YtkehpnobidendaaGreatDoor
open Go.RowKit
attribute [local go_sem ↓] load_ltr store_ltr

noncomputable def lfgR : Code := ((Tryz.f22.body.bind (zreg 3))).getD .skip
set_option maxRecDepth 1000000 in
set_option maxHeartbeats 8000000 in
theorem lfg_r3 {y1 y2 y3 y4 y6 y7 y8 y9 y10 y11 y12 y13 y14 y15 y16 y17 y18 y19 y20 y21 y22 y23 y24 y25 y26 y27 y28 y29 y30 y31 y32 y33 y34 y35 y36 y37 y38 y39 y40 y41 y42 y43 y44 y45 y46 y47 y48 y49 y50 y51 y52 y53 y54 y55 y56 y57 y58 y59 y60 y61 y62 y63 y64 y65 y66 y67 y68 y69 y70 y71 y72 y73 y74 y75 y76 y77 y78 y79 y80 y81 y82 y83 y84 y85 y86 y87 y88 y89 y90 y91 y92 y93 y94 y95 y96 y97 y98 y99 y100 y101 y102 y103 y104 y105 y106 y107 y108 y109 y110 y111 y112 y113 y114 y115 y116 y117 y118 y119 y120 y121 y122 y123 y124 y125 y126 y127 y128 y129 y130 y131 y132 y133 : Value} {q b5 g off cm n i : Nat} {a : Int} {l0 lk lf lv lbv ljv lj0 lj1 lj2 lj3 lcv lc0 lc1 lc2 lc3 lsl : Int} {ljb lnu lcb : Nat} {lbc : ByteArray} {W : World} {Q : Exit → Act → World → Prop}
    (LP : Hid (∀ W, Calls Tryz.prog 10 #[.int .i64 a, .int .i64 n] W fun e w' => e = .returned (.int .i64 i) ∧ w' = W))
    (HS : Hid (∀ W', Below W.heap.size W W' → Below W.heap.size W W' ∧ W'.cell? ⟨q, 1, none⟩ = some (.slice (some ⟨g, off, none⟩) n cm) ∧ W'.cell? ⟨b5, 2, none⟩ = some (.int .i64 a) ∧ (rowVar 67 ⟨g, off + i * 20, none⟩).run Tryz.prog W' = .ok (.agg #[.int .i64 l0, .int .i64 lk, .int .i64 lf, .int .i64 lv, .int .i64 lbv, .int .i64 ljv, .int .u64 ljb, .int .u64 lj0, .int .u64 lj1, .int .u64 lj2, .int .u64 lj3, .string lbc, .int .u64 lnu, .int .i64 lcv, .int .u64 lcb, .int .u64 lc0, .int .u64 lc1, .int .u64 lc2, .int .u64 lc3, .int .u64 lsl]) W')) (hi1 : (i : Int) < (n : Int))
    (hpu : (rowPut 67 ⟨W.heap.size, 0, none⟩ (.agg #[.int .i64 l0, .int .i64 lk, .int .i64 lf, .int .i64 lv, .int .i64 lbv, .int .i64 ljv, .int .u64 ljb, .int .u64 lj0, .int .u64 lj1, .int .u64 lj2, .int .u64 lj3, .string lbc, .int .u64 lnu, .int .i64 lcv, .int .u64 lcb, .int .u64 lc0, .int .u64 lc1, .int .u64 lc2, .int .u64 lc3, .int .u64 lsl])).run Tryz.prog (W.alloc (.cells #[.int .i64 0, .int .i64 0, .int .i64 0, .int .i64 0, .int .i64 0, .int .i64 0, .int .u64 0, .int .u64 0, .int .u64 0, .int .u64 0, .int .u64 0, .string ⟨#[]⟩, .int .u64 0, .int .i64 0, .int .u64 0, .int .u64 0, .int .u64 0, .int .u64 0, .int .u64 0, .int .u64 0] 67)).drew = .ok () (W.alloc (.cells #[.int .i64 l0, .int .i64 lk, .int .i64 lf, .int .i64 lv, .int .i64 lbv, .int .i64 ljv, .int .u64 ljb, .int .u64 lj0, .int .u64 lj1, .int .u64 lj2, .int .u64 lj3, .string lbc, .int .u64 lnu, .int .i64 lcv, .int .u64 lcb, .int .u64 lc0, .int .u64 lc1, .int .u64 lc2, .int .u64 lc3, .int .u64 lsl] 67)).drew)
    (HEX : Hid (∀ {v24 v25 v26 v27 v28 v29 v30 v31 v32 v33 v34 v35 v36 v37 : Value}, Q .normal ⟨List.toArray (.pointer (some ⟨q, 0, none⟩) :: y1 :: y2 :: y3 :: y4 :: .pointer (some ⟨b5, 0, none⟩) :: y6 :: y7 :: .pointer (some ⟨W.heap.size, 0, none⟩) :: y9 :: y10 :: y11 :: y12 :: y13 :: y14 :: y15 :: y16 :: y17 :: y18 :: y19 :: y20 :: y21 :: y22 :: y23 :: v24 :: v25 :: v26 :: v27 :: v28 :: v29 :: v30 :: v31 :: v32 :: v33 :: v34 :: v35 :: v36 :: v37 :: y38 :: y39 :: y40 :: y41 :: y42 :: y43 :: y44 :: y45 :: y46 :: y47 :: y48 :: y49 :: y50 :: y51 :: y52 :: y53 :: y54 :: y55 :: y56 :: y57 :: y58 :: y59 :: y60 :: y61 :: y62 :: y63 :: y64 :: y65 :: y66 :: y67 :: y68 :: y69 :: y70 :: y71 :: y72 :: y73 :: y74 :: y75 :: y76 :: y77 :: y78 :: y79 :: y80 :: y81 :: y82 :: y83 :: y84 :: y85 :: y86 :: y87 :: y88 :: y89 :: y90 :: y91 :: y92 :: y93 :: y94 :: y95 :: y96 :: y97 :: y98 :: y99 :: y100 :: y101 :: y102 :: y103 :: y104 :: y105 :: y106 :: y107 :: y108 :: y109 :: y110 :: y111 :: y112 :: y113 :: y114 :: y115 :: y116 :: y117 :: y118 :: y119 :: y120 :: y121 :: y122 :: y123 :: y124 :: y125 :: y126 :: y127 :: y128 :: y129 :: y130 :: y131 :: y132 :: y133 :: []), []⟩ (W.alloc (.cells #[.int .i64 l0, .int .i64 lk, .int .i64 lf, .int .i64 lv, .int .i64 lbv, .int .i64 ljv, .int .u64 ljb, .int .u64 lj0, .int .u64 lj1, .int .u64 lj2, .int .u64 lj3, .string lbc, .int .u64 lnu, .int .i64 lcv, .int .u64 lcb, .int .u64 lc0, .int .u64 lc1, .int .u64 lc2, .int .u64 lc3, .int .u64 lsl] 67)).drew)) :
    Code.wp Tryz.prog lfgR Q ⟨List.toArray (.pointer (some ⟨q, 0, none⟩) :: y1 :: y2 :: y3 :: y4 :: .pointer (some ⟨b5, 0, none⟩) :: y6 :: y7 :: y8 :: y9 :: y10 :: y11 :: y12 :: y13 :: y14 :: y15 :: y16 :: y17 :: y18 :: y19 :: y20 :: y21 :: y22 :: y23 :: y24 :: y25 :: y26 :: y27 :: y28 :: y29 :: y30 :: y31 :: y32 :: y33 :: y34 :: y35 :: y36 :: y37 :: y38 :: y39 :: y40 :: y41 :: y42 :: y43 :: y44 :: y45 :: y46 :: y47 :: y48 :: y49 :: y50 :: y51 :: y52 :: y53 :: y54 :: y55 :: y56 :: y57 :: y58 :: y59 :: y60 :: y61 :: y62 :: y63 :: y64 :: y65 :: y66 :: y67 :: y68 :: y69 :: y70 :: y71 :: y72 :: y73 :: y74 :: y75 :: y76 :: y77 :: y78 :: y79 :: y80 :: y81 :: y82 :: y83 :: y84 :: y85 :: y86 :: y87 :: y88 :: y89 :: y90 :: y91 :: y92 :: y93 :: y94 :: y95 :: y96 :: y97 :: y98 :: y99 :: y100 :: y101 :: y102 :: y103 :: y104 :: y105 :: y106 :: y107 :: y108 :: y109 :: y110 :: y111 :: y112 :: y113 :: y114 :: y115 :: y116 :: y117 :: y118 :: y119 :: y120 :: y121 :: y122 :: y123 :: y124 :: y125 :: y126 :: y127 :: y128 :: y129 :: y130 :: y131 :: y132 :: y133 :: []), []⟩ W := by
  refine wp_mono (Q := Exit.then (Q .normal) (fun _ _ _ => False)) ?_ (fun e a w h => by cases e <;> first | exact h | exact h.elim)
  conv => arg 2; whnf
  have i0 : (0 : Int) ≤ (i : Int) := by omega
  go_region_held3 (fun W' => Below W.heap.size W W' ∧ W'.cell? ⟨q, 1, none⟩ = some (.slice (some ⟨g, off, none⟩) n cm) ∧ W'.cell? ⟨b5, 2, none⟩ = some (.int .i64 a) ∧ (rowVar 67 ⟨g, off + i * 20, none⟩).run Tryz.prog W' = .ok (.agg #[.int .i64 l0, .int .i64 lk, .int .i64 lf, .int .i64 lv, .int .i64 lbv, .int .i64 ljv, .int .u64 ljb, .int .u64 lj0, .int .u64 lj1, .int .u64 lj2, .int .u64 lj3, .string lbc, .int .u64 lnu, .int .i64 lcv, .int .u64 lcb, .int .u64 lc0, .int .u64 lc1, .int .u64 lc2, .int .u64 lc3, .int .u64 lsl]) W')
    (first | (exact HS.out _ (Below.refl _ _).drew) | (exact HS.out _ (bnext (And.left ‹Below W.heap.size W _ ∧ _›) (below_alloc _ _))) | (exact HS.out _ (bnext (Below.refl _ _).drew (below_alloc _ _))))
    ((go_at_call 10; refine (LP.out _).mono ?_; rintro e w3 ⟨rfl, rfl⟩))
  all_goals exact HEX.out
end Go.Proofs.YtkehpnobidendaaGreatDoor

namespace Go.Proofs.YtkehpnobidendaaGreatDoor
open Go.RowKit

theorem ld_crtZ (a : Addr) : loadVar 39 a = rowVar 39 a := rfl
theorem st_crtZ (a : Addr) (v : Value) : storeVar 39 a v = rowPut 39 a v := rfl
theorem st_msgZ (a : Addr) (v : Value) : storeVar 43 a v = rowPut 43 a v := rfl
/-- A block, written over. -/
def zfill (c : Array Value) : Nat → List Value → Array Value
  | _, [] => c
  | o, v :: r => zfill (c.setIfInBounds o v) (o + 1) r
theorem zfill_new (w : World) (T : TypeId) : ∀ (vs : List Value) (o : Nat) (c : Array Value), (w.alloc (.cells c T)).setCells w.heap.size o vs = w.alloc (.cells (zfill c o vs) T)
  | [], _, _ => rfl
  | v :: r, o, c => by rw [World.setCells, World.setCell_alloc_new, zfill_new w T r (o + 1)]; rfl
theorem zfill_box {b : Nat} {T : TypeId} {f : Nat × Nat} : ∀ (vs : List Value) (o : Nat) (C : Array Value) (W : World), W.heap[b]? = some (.cells C T f) → (W.setCells b o vs).heap[b]? = some (.cells (zfill C o vs) T f)
  | [], _, _, _, h => h
  | v :: r, o, C, W, h => by rw [World.setCells]; exact zfill_box r (o + 1) _ _ (heap_store h v)
theorem there_box {W : World} {b : Nat} {T : TypeId} {C : Array Value} (h : W.heap[b]? = some (.cells C T (0, 0))) (o n : Nat) (hn : o + n ≤ C.size) : W.there b o n := fun j hj => by
  refine ⟨?_, free_at h _⟩
  rw [cell_at h]
  simp; omega
theorem size_setCells' (b : Nat) : ∀ (vs : List Value) (o : Nat) (W : World), (W.setCells b o vs).heap.size = W.heap.size
  | [], _, _ => rfl
  | v :: r, o, W => by rw [World.setCells, size_setCells' b r]; simp
theorem zother {b k : Nat} (hk : k ≠ b) : ∀ (vs : List Value) (o : Nat) (W : World), (W.setCells b o vs).heap[k]? = W.heap[k]?
  | [], _, _ => rfl
  | v :: r, o, W => by rw [World.setCells, zother hk r]; exact heap_store_ne v hk
theorem zfill20 (a0 a1 a2 a3 a4 a5 a6 a7 a8 a9 a10 a11 a12 a13 a14 a15 a16 a17 a18 a19 z0 z1 z2 z3 z4 z5 z6 z7 z8 z9 z10 z11 z12 z13 z14 z15 z16 z17 z18 z19 : Value) : zfill #[z0, z1, z2, z3, z4, z5, z6, z7, z8, z9, z10, z11, z12, z13, z14, z15, z16, z17, z18, z19] 0 [a0, a1, a2, a3, a4, a5, a6, a7, a8, a9, a10, a11, a12, a13, a14, a15, a16, a17, a18, a19] = #[a0, a1, a2, a3, a4, a5, a6, a7, a8, a9, a10, a11, a12, a13, a14, a15, a16, a17, a18, a19] := by kernel_rfl
theorem zdrew (b : Nat) : ∀ (vs : List Value) (o : Nat) (W : World), W.drew.setCells b o vs = (W.setCells b o vs).drew
  | [], _, _ => rfl
  | v :: r, o, W => by rw [World.setCells, World.setCells]; exact zdrew b r (o + 1) (W.setCell ⟨b, o, none⟩ v)
theorem zfill19 (a0 a1 a2 a3 a4 a5 a6 a7 a8 a9 a10 a11 a12 a13 a14 a15 a16 a17 a18 z0 z1 z2 z3 z4 z5 z6 z7 z8 z9 z10 z11 z12 z13 z14 z15 z16 z17 z18 : Value) : zfill #[z0, z1, z2, z3, z4, z5, z6, z7, z8, z9, z10, z11, z12, z13, z14, z15, z16, z17, z18] 0 [a0, a1, a2, a3, a4, a5, a6, a7, a8, a9, a10, a11, a12, a13, a14, a15, a16, a17, a18] = #[a0, a1, a2, a3, a4, a5, a6, a7, a8, a9, a10, a11, a12, a13, a14, a15, a16, a17, a18] := by kernel_rfl
/-- What a message that is forged is. -/
structure FOk (X : Msg) : Prop where
  ok : X.Ok
  k0 : -9223372036854775808 ≤ X.kind
  k1 : X.kind ≤ 9223372036854775807
  f0 : -9223372036854775808 ≤ X.fro
  f1 : X.fro ≤ 9223372036854775807
  v0 : -9223372036854775808 ≤ X.view
  v1 : X.view ≤ 9223372036854775807
/-- The boxes of forged. -/
structure Fg (w W : World) (x : Nat × Nat) (oc : Array Value) (X : Msg) : Prop where
  b : Below w.heap.size w W
  h4 : W.heap[w.heap.size]? = some (.cells #[.pointer (some ⟨x.1, 0, none⟩), .pointer (some ⟨x.2, 0, none⟩)] 50 (0, 0))
  h5 : W.heap[w.heap.size + 1]? = some (.cells oc 45 (0, 0))
  h6 : ∃ C : Array Value, C.size = 19 ∧ W.heap[w.heap.size + 2]? = some (.cells C 43 (0, 0))
  h7 : W.heap[w.heap.size + 3]? = some (.cells X.cells.toArray 43 (0, 0))
  ok : FOk X
theorem Fg.next {w W W' : World} {x : Nat × Nat} {oc : Array Value} {X : Msg} (h : Fg w W x oc X) (hb : Below W.heap.size W W') : Fg w W' x oc X := by
  obtain ⟨C, hC, h6⟩ := h.h6
  exact ⟨bnext h.b hb, box_below h.h4 hb, box_below h.h5 hb, ⟨C, hC, box_below h6 hb⟩, box_below h.h7 hb, h.ok⟩
theorem Fg.put {w W : World} {x : Nat × Nat} {oc : Array Value} {X : Msg} (h : Fg w W x oc X) (o : Nat) (vs : List Value) {X' : Msg} (hX : zfill X.cells.toArray o vs = X'.cells.toArray) (ok : FOk X') : Fg w (W.setCells (w.heap.size + 3) o vs) x oc X' := by
  obtain ⟨C, hC, h6⟩ := h.h6
  have ot : ∀ k ob, W.heap[k]? = some ob → k ≠ w.heap.size + 3 → (W.setCells (w.heap.size + 3) o vs).heap[k]? = some ob := fun k ob hk hne => (zother hne vs o W).trans hk
  refine ⟨below_setCells (by omega) _ _ _ h.b, ot _ _ h.h4 (by omega), ot _ _ h.h5 (by omega), ⟨C, hC, ot _ _ h6 (by omega)⟩, ?_, ok⟩
  rw [← hX]
  exact zfill_box vs o _ W h.h7
theorem Fg.set {w W : World} {x : Nat × Nat} {oc : Array Value} {X : Msg} (h : Fg w W x oc X) (o : Nat) (v : Value) {X' : Msg} (hX : zfill X.cells.toArray o [v] = X'.cells.toArray) (ok : FOk X') : Fg w (W.setCell ⟨w.heap.size + 3, o, none⟩ v) x oc X' := h.put o [v] hX ok
theorem Fg.other {w W : World} {o k : Nat} {v : Value} {ob : Obj} (h : W.heap[k]? = some ob) (hk : k ≠ w.heap.size + 3) : (W.setCell ⟨w.heap.size + 3, o, none⟩ v).heap[k]? = some ob := by
  rw [heap_store_ne v hk]; exact h
theorem FOk.crt {X : Msg} (h : FOk X) {c : Crt} (hc : c.Ok) : FOk { X with cert := c } := ⟨⟨h.ok.b, h.ok.n, hc⟩, h.k0, h.k1, h.f0, h.f1, h.v0, h.v1⟩
theorem FOk.just {X : Msg} (h : FOk X) {c : Crt} (hc : c.Ok) : FOk { X with block := { X.block with just := c } } := ⟨⟨⟨h.ok.b.v0, h.ok.b.v1, hc, h.ok.b.c1⟩, h.ok.n, h.ok.c⟩, h.k0, h.k1, h.f0, h.f1, h.v0, h.v1⟩
theorem FOk.num {X : Msg} (h : FOk X) {n : Nat} (hn : n < 18446744073709551616) : FOk { X with number := n } := ⟨⟨h.ok.b, hn, h.ok.c⟩, h.k0, h.k1, h.f0, h.f1, h.v0, h.v1⟩
theorem FOk.vw {X : Msg} (h : FOk X) {v : Int} (v0 : -9223372036854775808 ≤ v) (v1 : v ≤ 9223372036854775807) : FOk { X with view := v } := ⟨⟨h.ok.b, h.ok.n, h.ok.c⟩, h.k0, h.k1, h.f0, h.f1, v0, v1⟩
theorem FOk.seal {X : Msg} (h : FOk X) (s : Int) : FOk { X with sl := s } := ⟨⟨h.ok.b, h.ok.n, h.ok.c⟩, h.k0, h.k1, h.f0, h.f1, h.v0, h.v1⟩
/-- A piece of a box. -/
theorem box_range {W : World} {b : Nat} {T : TypeId} {C : Array Value} (h : W.heap[b]? = some (.cells C T (0, 0))) (o : Nat) (vs : List Value) (hv : ∀ j v, vs[j]? = some v → C[o + j]? = some v) : W.rangeAt b o vs := fun j v hj => by
  rw [cell_at h]; exact hv j v hj
end Go.Proofs.YtkehpnobidendaaGreatDoor

namespace Go.Proofs.YtkehpnobidendaaGreatDoor
open Go.RowKit

section
variable {w W : World} {x : Nat × Nat} {oc : Array Value} {X : Msg}
theorem msg_at {W : World} {b : Nat} {T : TypeId} (h : W.heap[b]? = some (.cells X.cells.toArray T (0, 0))) (o : Nat) (vs : List Value) (hv : ∀ j v, vs[j]? = some v → X.cells[o + j]? = some v) : W.rangeAt b o vs := box_range h o vs (fun j v hj => by rw [List.getElem?_toArray]; exact hv j v hj)
theorem Fg.ldC (h : Fg w W x oc X) : (rowVar 39 ⟨w.heap.size + 3, 12, none⟩).run Tryz.prog W = .ok (.agg #[.int .i64 X.cert.view, .int .u64 X.cert.block, .int .u64 X.cert.s0, .int .u64 X.cert.s1, .int .u64 X.cert.s2, .int .u64 X.cert.s3]) W :=
  rowVar_mid W (w.heap.size + 3) 12 39 X.cert.cells _ (msg_at h.h7 12 _ (fun j v hv => by
    have hj : j < 6 := (List.getElem?_eq_some_iff.1 hv).1
    rcases (by omega : j = 0 ∨ j = 1 ∨ j = 2 ∨ j = 3 ∨ j = 4 ∨ j = 5) with rfl | rfl | rfl | rfl | rfl | rfl <;> exact hv)) Tryz.underlying39 rfl (by kernel_rfl)
theorem Fg.ldJ (h : Fg w W x oc X) : (rowVar 39 ⟨w.heap.size + 3, 4, none⟩).run Tryz.prog W = .ok (.agg #[.int .i64 X.block.just.view, .int .u64 X.block.just.block, .int .u64 X.block.just.s0, .int .u64 X.block.just.s1, .int .u64 X.block.just.s2, .int .u64 X.block.just.s3]) W :=
  rowVar_mid W (w.heap.size + 3) 4 39 X.block.just.cells _ (msg_at h.h7 4 _ (fun j v hv => by
    have hj : j < 6 := (List.getElem?_eq_some_iff.1 hv).1
    rcases (by omega : j = 0 ∨ j = 1 ∨ j = 2 ∨ j = 3 ∨ j = 4 ∨ j = 5) with rfl | rfl | rfl | rfl | rfl | rfl <;> exact hv)) Tryz.underlying39 rfl (by kernel_rfl)
theorem Fg.ldB (h : Fg w W x oc X) : (rowVar 41 ⟨w.heap.size + 3, 3, none⟩).run Tryz.prog W = .ok (.agg X.block.cells.toArray) W :=
  rowVar_mid W (w.heap.size + 3) 3 41 X.block.cells _ (msg_at h.h7 3 _ (fun j v hv => by
    have hj : j < 8 := (List.getElem?_eq_some_iff.1 hv).1
    rcases (by omega : j = 0 ∨ j = 1 ∨ j = 2 ∨ j = 3 ∨ j = 4 ∨ j = 5 ∨ j = 6 ∨ j = 7) with rfl | rfl | rfl | rfl | rfl | rfl | rfl | rfl <;> exact hv)) Tryz.underlying41 rfl (by kernel_rfl)
theorem Fg.st (h : Fg w W x oc X) (o : Nat) (ho : o ≤ 13) (v : Int) (bk : Nat) (s0 s1 s2 s3 : Int) : (rowPut 39 ⟨w.heap.size + 3, o, none⟩ (.agg #[.int .i64 v, .int .u64 bk, .int .u64 s0, .int .u64 s1, .int .u64 s2, .int .u64 s3])).run Tryz.prog W = .ok () (W.setCells (w.heap.size + 3) o [.int .i64 v, .int .u64 bk, .int .u64 s0, .int .u64 s1, .int .u64 s2, .int .u64 s3]) :=
  rowPut_mid W (w.heap.size + 3) o 39 #[.int .i64 v, .int .u64 bk, .int .u64 s0, .int .u64 s1, .int .u64 s2, .int .u64 s3] (there_box h.h7 o 6 (by show o + 6 ≤ 19; omega)) (by kernel_rfl) (by simp [Value.oneCell'])
theorem Fg.putC (h : Fg w W x oc X) {v : Int} {bk : Nat} {s0 s1 s2 s3 : Int} (hc : Crt.Ok ⟨v, bk, s0, s1, s2, s3⟩) : Fg w (W.setCells (w.heap.size + 3) 12 [.int .i64 v, .int .u64 bk, .int .u64 s0, .int .u64 s1, .int .u64 s2, .int .u64 s3]) x oc { X with cert := ⟨v, bk, s0, s1, s2, s3⟩ } := h.put 12 _ (by cases X; rfl) (h.ok.crt hc)
theorem Fg.putJ (h : Fg w W x oc X) {v : Int} {bk : Nat} {s0 s1 s2 s3 : Int} (hc : Crt.Ok ⟨v, bk, s0, s1, s2, s3⟩) : Fg w (W.setCells (w.heap.size + 3) 4 [.int .i64 v, .int .u64 bk, .int .u64 s0, .int .u64 s1, .int .u64 s2, .int .u64 s3]) x oc { X with block := { X.block with just := ⟨v, bk, s0, s1, s2, s3⟩ } } := h.put 4 _ (by cases X; rfl) (h.ok.just hc)
theorem Fg.putS (h : Fg w W x oc X) (s : Int) : Fg w (W.setCell ⟨w.heap.size + 3, 18, none⟩ (.int .u64 s)) x oc { X with sl := s } := h.set 18 _ (by cases X; rfl) (h.ok.seal s)
end
attribute [local go_sem ↓] pload_msg load_blk ld_crtZ st_crtZ st_msgZ
noncomputable def lfgE : Code := ((Tryz.f22.body.bind (zfrom 12))).getD .skip
set_option maxRecDepth 1000000 in
set_option maxHeartbeats 8000000 in
theorem lfg_end {y1 y2 y3 y8 y9 y10 y11 y12 y13 y14 y15 y16 y17 y18 y19 y20 y21 y22 y23 y24 y25 y26 y27 y28 y29 y30 y31 y32 y33 y34 y35 y36 y37 y38 y39 y40 y41 y42 y43 y44 y45 y46 y47 y48 y49 y50 y51 y52 y53 y54 y55 y56 y57 y58 y59 y60 y61 y62 y63 y64 y65 y66 y67 y68 y69 y70 y71 y72 y73 y74 y75 y76 y77 y78 y79 y80 y81 y82 y83 y84 y85 y86 y87 y88 y89 y90 y91 y92 y93 y94 y95 y96 y97 y98 y99 y100 y101 y102 y103 y104 y105 y106 y107 y108 y109 y110 y111 y112 y113 y114 y115 y116 y117 y118 y119 y120 y121 y122 y123 y124 y125 y126 y127 y128 y129 y130 y131 y132 y133 : Value} {w : World} {q : Nat} {x : Nat × Nat} {oc : Array Value} {X : Msg} {b : Int} {hv h0 h1 h2 h3 : Int} {hb : Nat} {V : World} {Q : Exit → Act → World → Prop}
    (HF : Hid (Fg w V x oc X)) (HO3 : Hid (oc[3]? = some (.int .i64 b))) (HHI : Hid (∀ W, Below w.heap.size w W → (rowVar 39 ⟨x.2, 5, none⟩).run Tryz.prog W = .ok (.agg #[.int .i64 hv, .int .u64 hb, .int .u64 h0, .int .u64 h1, .int .u64 h2, .int .u64 h3]) W)) (HHK : Hid (Crt.Ok ⟨hv, hb, h0, h1, h2, h3⟩))
    (HRE : Hid (∀ {v9 v74 v75 v76 v77 v78 v79 v80 v81 v82 v83 v84 v85 v86 v87 v88 v89 v90 v91 v92 v93 v94 v95 v96 v97 v98 v99 v100 v101 v102 v103 v104 v105 v106 v107 v108 v109 v110 v111 v112 v113 v114 v115 v116 v117 v118 v119 v120 v121 v122 v123 v124 v125 v126 v127 v128 v129 v130 v131 v132 v133 : Value} {w' : World}, (∃ X' : Msg, FOk X' ∧ Below w.heap.size w w' ∧ w'.rangeAt (w.heap.size + 1 + 1) 0 X'.cells) → Q .ret ⟨List.toArray (.pointer (some ⟨q, 0, none⟩) :: y1 :: y2 :: y3 :: .pointer (some ⟨w.heap.size, 0, none⟩) :: .pointer (some ⟨w.heap.size + 1, 0, none⟩) :: .pointer (some ⟨w.heap.size + 1 + 1, 0, none⟩) :: .pointer (some ⟨w.heap.size + 3, 0, none⟩) :: y8 :: v9 :: y10 :: y11 :: y12 :: y13 :: y14 :: y15 :: y16 :: y17 :: y18 :: y19 :: y20 :: y21 :: y22 :: y23 :: y24 :: y25 :: y26 :: y27 :: y28 :: y29 :: y30 :: y31 :: y32 :: y33 :: y34 :: y35 :: y36 :: y37 :: y38 :: y39 :: y40 :: y41 :: y42 :: y43 :: y44 :: y45 :: y46 :: y47 :: y48 :: y49 :: y50 :: y51 :: y52 :: y53 :: y54 :: y55 :: y56 :: y57 :: y58 :: y59 :: y60 :: y61 :: y62 :: y63 :: y64 :: y65 :: y66 :: y67 :: y68 :: y69 :: y70 :: y71 :: y72 :: y73 :: v74 :: v75 :: v76 :: v77 :: v78 :: v79 :: v80 :: v81 :: v82 :: v83 :: v84 :: v85 :: v86 :: v87 :: v88 :: v89 :: v90 :: v91 :: v92 :: v93 :: v94 :: v95 :: v96 :: v97 :: v98 :: v99 :: v100 :: v101 :: v102 :: v103 :: v104 :: v105 :: v106 :: v107 :: v108 :: v109 :: v110 :: v111 :: v112 :: v113 :: v114 :: v115 :: v116 :: v117 :: v118 :: v119 :: v120 :: v121 :: v122 :: v123 :: v124 :: v125 :: v126 :: v127 :: v128 :: v129 :: v130 :: v131 :: v132 :: v133 :: []), []⟩ w')) :
    Code.wp Tryz.prog lfgE Q ⟨List.toArray (.pointer (some ⟨q, 0, none⟩) :: y1 :: y2 :: y3 :: .pointer (some ⟨w.heap.size, 0, none⟩) :: .pointer (some ⟨w.heap.size + 1, 0, none⟩) :: .pointer (some ⟨w.heap.size + 1 + 1, 0, none⟩) :: .pointer (some ⟨w.heap.size + 3, 0, none⟩) :: y8 :: y9 :: y10 :: y11 :: y12 :: y13 :: y14 :: y15 :: y16 :: y17 :: y18 :: y19 :: y20 :: y21 :: y22 :: y23 :: y24 :: y25 :: y26 :: y27 :: y28 :: y29 :: y30 :: y31 :: y32 :: y33 :: y34 :: y35 :: y36 :: y37 :: y38 :: y39 :: y40 :: y41 :: y42 :: y43 :: y44 :: y45 :: y46 :: y47 :: y48 :: y49 :: y50 :: y51 :: y52 :: y53 :: y54 :: y55 :: y56 :: y57 :: y58 :: y59 :: y60 :: y61 :: y62 :: y63 :: y64 :: y65 :: y66 :: y67 :: y68 :: y69 :: y70 :: y71 :: y72 :: y73 :: y74 :: y75 :: y76 :: y77 :: y78 :: y79 :: y80 :: y81 :: y82 :: y83 :: y84 :: y85 :: y86 :: y87 :: y88 :: y89 :: y90 :: y91 :: y92 :: y93 :: y94 :: y95 :: y96 :: y97 :: y98 :: y99 :: y100 :: y101 :: y102 :: y103 :: y104 :: y105 :: y106 :: y107 :: y108 :: y109 :: y110 :: y111 :: y112 :: y113 :: y114 :: y115 :: y116 :: y117 :: y118 :: y119 :: y120 :: y121 :: y122 :: y123 :: y124 :: y125 :: y126 :: y127 :: y128 :: y129 :: y130 :: y131 :: y132 :: y133 :: []), []⟩ V := by
  conv => arg 2; whnf
  have a3 : V.cell? ⟨w.heap.size + 1, 3, none⟩ = some (.int .i64 b) := (cell_at HF.out.h5 3).trans HO3.out
  go_upto_if 77 with fail
  clear a3
  go_cut [] from 77 to 87 (fun W' => ∃ X' : Msg, Hid (Fg w W' x oc X'))
  case first =>
    by_cases hbb : (0 : Int) < bits BinOp.and IntKind.i64 b 2
    rotate_left
    · go_wp2
      go_meet
      case rel => exact ⟨_, HF.out⟩
    · have hl := HF.out.ldC
      go_upto_region 14 with (go_at_call 28; refine (lright X.cert.view X.cert.block X.cert.s0 X.cert.s1 X.cert.s2 X.cert.s3 7 HF.out.ok.ok.c.v0 HF.out.ok.ok.c.v1 HF.out.ok.ok.c.b1 V).mono ?_; rintro e w5 ⟨t0, t1, t2, t3, rfl, hb5⟩; have HF5 : Hid (Fg w w5 x oc X) := HF.out.next hb5; clear hb5; have hp := HF5.out.st 12 (by omega) X.cert.view X.cert.block t0 t1 t2 t3)
      obtain ⟨W6, hW6⟩ : ∃ W, W = w5.setCells (w.heap.size + 3) 12 [.int .i64 X.cert.view, .int .u64 X.cert.block, .int .u64 t0, .int .u64 t1, .int .u64 t2, .int .u64 t3] := ⟨_, rfl⟩
      have HF6 : Hid (Fg w W6 x oc { X with cert := ⟨X.cert.view, X.cert.block, t0, t1, t2, t3⟩ }) := by rw [hW6]; exact HF5.out.putC ⟨HF.out.ok.ok.c.v0, HF.out.ok.ok.c.v1, HF.out.ok.ok.c.b1⟩
      rw [← hW6]
      clear hW6 hl hp HF5
      have hl := HF6.out.ldJ
      dsimp only at hl
      go_wp2_with (go_at_call 28; refine (lright X.block.just.view X.block.just.block X.block.just.s0 X.block.just.s1 X.block.just.s2 X.block.just.s3 7 HF.out.ok.ok.b.j.v0 HF.out.ok.ok.b.j.v1 HF.out.ok.ok.b.j.b1 W6).mono ?_; rintro e w7 ⟨u0, u1, u2, u3, rfl, hb7⟩; have HF7 : Hid (Fg w w7 x oc { X with cert := ⟨X.cert.view, X.cert.block, t0, t1, t2, t3⟩ }) := HF6.out.next hb7; clear hb7; have hp := HF7.out.st 4 (by omega) X.block.just.view X.block.just.block u0 u1 u2 u3; have HF8 : Hid (Fg w (w7.setCells (w.heap.size + 3) 4 [.int .i64 X.block.just.view, .int .u64 X.block.just.block, .int .u64 u0, .int .u64 u1, .int .u64 u2, .int .u64 u3]) x oc _) := HF7.out.putJ ⟨HF.out.ok.ok.b.j.v0, HF.out.ok.ok.b.j.v1, HF.out.ok.ok.b.j.b1⟩)
      go_meet
      case rel => exact ⟨_, HF8.out⟩
  case rest =>
  clear HF X
  obtain ⟨X, HF⟩ := hcut
  have a3 : wc.cell? ⟨w.heap.size + 1, 3, none⟩ = some (.int .i64 b) := (cell_at HF.out.h5 3).trans HO3.out
  go_upto_if 91 with fail
  clear a3
  go_cut [] from 91 to 98 (fun W' => ∃ X' : Msg, Hid (Fg w W' x oc X'))
  case first =>
    by_cases hbb : (0 : Int) < bits BinOp.and IntKind.i64 b 4
    rotate_left
    · go_wp2
      go_meet
      case rel => exact ⟨_, HF.out⟩
    · have hl := HHI.out wc HF.out.b
      have e1 : wc.cell? ⟨w.heap.size, 1, none⟩ = some (.pointer (some ⟨x.2, 0, none⟩)) := cell_at HF.out.h4 1
      have hp := HF.out.st 4 (by omega) hv hb h0 h1 h2 h3
      have HF8 : Hid (Fg w (wc.setCells (w.heap.size + 3) 4 [.int .i64 hv, .int .u64 hb, .int .u64 h0, .int .u64 h1, .int .u64 h2, .int .u64 h3]) x oc _) := HF.out.putJ HHK.out
      go_wp2
      go_meet
      case rel => exact ⟨_, HF8.out⟩
  case rest =>
  clear HF X
  obtain ⟨X, HF⟩ := hcut
  generalize hw2 : wc = W2 at *
  have a3 : W2.cell? ⟨w.heap.size + 1, 3, none⟩ = some (.int .i64 b) := (cell_at HF.out.h5 3).trans HO3.out
  go_upto_if 102 with fail
  clear a3
  go_cut [] from 102 to 108 (fun W' => ∃ X' : Msg, Hid (Fg w W' x oc X'))
  case first =>
    by_cases hbb : (0 : Int) < bits BinOp.and IntKind.i64 b 8
    rotate_left
    · go_wp2
      go_meet
      case rel => exact ⟨_, HF.out⟩
    · have hl := HHI.out W2 HF.out.b
      have e1 : W2.cell? ⟨w.heap.size, 1, none⟩ = some (.pointer (some ⟨x.2, 0, none⟩)) := cell_at HF.out.h4 1
      have hp := HF.out.st 12 (by omega) hv hb h0 h1 h2 h3
      have HF8 : Hid (Fg w (W2.setCells (w.heap.size + 3) 12 [.int .i64 hv, .int .u64 hb, .int .u64 h0, .int .u64 h1, .int .u64 h2, .int .u64 h3]) x oc _) := HF.out.putC HHK.out
      go_wp2
      go_meet
      case rel => exact ⟨_, HF8.out⟩
  case rest =>
  clear HF X
  obtain ⟨X, HF⟩ := hcut
  generalize hw3 : wc = W3 at *
  have a3 : W3.cell? ⟨w.heap.size + 1, 3, none⟩ = some (.int .i64 b) := (cell_at HF.out.h5 3).trans HO3.out
  go_upto_if 112 with fail
  clear a3
  go_cut [9] from 112 to 132 (fun _ W' => ∃ X' : Msg, Hid (Fg w W' x oc X'))
  case first =>
    by_cases hbb : (0 : Int) < bits BinOp.and IntKind.i64 b 1
    rotate_left
    · go_wp2
      go_meet
      case rel => exact ⟨_, HF.out⟩
    · have k0 : W3.cell? ⟨w.heap.size + 3, 0, none⟩ = some (.int .i64 X.kind) := cell_at HF.out.h7 0
      have k1 : W3.cell? ⟨w.heap.size + 3, 1, none⟩ = some (.int .i64 X.fro) := cell_at HF.out.h7 1
      have k2 : W3.cell? ⟨w.heap.size + 3, 2, none⟩ = some (.int .i64 X.view) := cell_at HF.out.h7 2
      have k11 : W3.cell? ⟨w.heap.size + 3, 11, none⟩ = some (.int .u64 X.number) := cell_at HF.out.h7 11
      have HSE : Hid (∀ (W : World) (n : Nat), n < 18446744073709551616 → Calls Tryz.prog 25 #[.int .i64 X.fro, .int .i64 X.kind, .int .i64 X.view, .int .u64 n] W fun e w' => e = .returned (.int .u64 (sealOf X.fro X.kind X.view n)) ∧ Below W.heap.size W w') := fun W n hn => rseal X.fro X.kind X.view n HF.out.ok.f0 HF.out.ok.f1 HF.out.ok.k0 HF.out.ok.k1 HF.out.ok.v0 HF.out.ok.v1 hn W
      by_cases kk1 : X.kind = 1
      · have kb : (X.kind == 1) = true := by simp [kk1]
        have kb3 : (X.kind == 3) = false := by simp [kk1]
        have hlb := HF.out.ldB
        dsimp only [Blk.cells] at hlb
        have HNU : Hid (Calls Tryz.prog 27 #[.agg #[.int .i64 X.block.view, .int .i64 X.block.just.view, .int .u64 X.block.just.block, .int .u64 X.block.just.s0, .int .u64 X.block.just.s1, .int .u64 X.block.just.s2, .int .u64 X.block.just.s3, .string X.block.cmd]] W3 fun e w' => e = .returned (.int .u64 X.block.num) ∧ Below W3.heap.size W3 w') := rnum X.block HF.out.ok.ok.b W3
        have hnl : X.block.num < 18446744073709551616 := num_lt _
        generalize X.block.num = nb at HNU hnl
        clear kk1
        go_upto_region 23 with (go_at_call 27; refine HNU.out.mono ?_; rintro e w5 ⟨rfl, hb5⟩; have HF5 : Hid (Fg w w5 x oc X) := HF.out.next hb5; clear hb5)
        clear k0 k1 k2 k11 hlb HNU
        have k0 : w5.cell? ⟨w.heap.size + 3, 0, none⟩ = some (.int .i64 X.kind) := cell_at HF5.out.h7 0
        have k1 : w5.cell? ⟨w.heap.size + 3, 1, none⟩ = some (.int .i64 X.fro) := cell_at HF5.out.h7 1
        have k2 : w5.cell? ⟨w.heap.size + 3, 2, none⟩ = some (.int .i64 X.view) := cell_at HF5.out.h7 2
        go_wp2_with (go_at_call 25; refine (HSE.out _ nb hnl).mono ?_; rintro e w7 ⟨rfl, hb7⟩; have HF7 : Hid (Fg w w7 x oc X) := HF5.out.next hb7; clear hb7; have k18 : w7.cell? ⟨w.heap.size + 3, 18, none⟩ = some (.int .u64 X.sl) := cell_at HF7.out.h7 18; have f18 : w7.frozen? ⟨w.heap.size + 3, 18, none⟩ = false := free_at HF7.out.h7 18)
        go_meet
        case rel => exact ⟨_, HF7.out.putS _⟩
      · have kb : (X.kind == 1) = false := by simp [kk1]
        by_cases kk3 : X.kind = 3
        · have kb3 : (X.kind == 3) = true := by simp [kk3]
          clear kk1 kk3
          go_wp2_with (go_at_call 25; refine (HSE.out _ 0 (by decide)).mono ?_; rintro e w7 ⟨rfl, hb7⟩; have HF7 : Hid (Fg w w7 x oc X) := HF.out.next hb7; clear hb7; have k18 : w7.cell? ⟨w.heap.size + 3, 18, none⟩ = some (.int .u64 X.sl) := cell_at HF7.out.h7 18; have f18 : w7.frozen? ⟨w.heap.size + 3, 18, none⟩ = false := free_at HF7.out.h7 18)
          go_meet
          case rel => exact ⟨_, HF7.out.putS _⟩
        · have kb3 : (X.kind == 3) = false := by simp [kk3]
          clear kk1 kk3
          go_wp2_with (go_at_call 25; refine (HSE.out _ X.number HF.out.ok.ok.n).mono ?_; rintro e w7 ⟨rfl, hb7⟩; have HF7 : Hid (Fg w w7 x oc X) := HF.out.next hb7; clear hb7; have k18 : w7.cell? ⟨w.heap.size + 3, 18, none⟩ = some (.int .u64 X.sl) := cell_at HF7.out.h7 18; have f18 : w7.frozen? ⟨w.heap.size + 3, 18, none⟩ = false := free_at HF7.out.h7 18)
          go_meet
          case rel => exact ⟨_, HF7.out.putS _⟩
  case rest =>
  clear HF X
  obtain ⟨X, HF⟩ := hcut
  generalize hw4 : wc = W4 at *
  have hl : (rowVar 43 ⟨w.heap.size + 3, 0, none⟩).run Tryz.prog W4 = .ok (.agg X.cells.toArray) W4 := rowVar_whole _ (w.heap.size + 3) 43 43 _ (0, 0) _ HF.out.h7 Tryz.underlying43 rfl (by kernel_rfl)
  obtain ⟨C, hC, h6⟩ := HF.out.h6
  have hth : W4.there (w.heap.size + 1 + 1) 0 19 := there_box h6 0 19 (by omega)
  have hp : (rowPut 43 ⟨w.heap.size + 1 + 1, 0, none⟩ (.agg X.cells.toArray)).run Tryz.prog W4 = .ok () (W4.setCells (w.heap.size + 1 + 1) 0 X.cells) := rowPut_mid W4 (w.heap.size + 1 + 1) 0 43 X.cells.toArray hth (by kernel_rfl) (by simp [Msg.cells, Value.oneCell'])
  have HFI : Hid (∃ X' : Msg, FOk X' ∧ Below w.heap.size w (W4.setCells (w.heap.size + 1 + 1) 0 X.cells) ∧ (W4.setCells (w.heap.size + 1 + 1) 0 X.cells).rangeAt (w.heap.size + 1 + 1) 0 X'.cells) := ⟨X, HF.out.ok, below_setCells (by omega) _ _ _ HF.out.b, World.rangeAt_setCells_same W4 (w.heap.size + 1 + 1) 0 X.cells hth⟩
  clear h6 hC hth
  go_wp2
  exact HRE.out HFI.out
end Go.Proofs.YtkehpnobidendaaGreatDoor

namespace Go.Proofs.YtkehpnobidendaaGreatDoor
open Go.RowKit
attribute [local go_sem ↓] pload_msg load_blk ld_crtZ st_crtZ st_msgZ

theorem results_cellZ {fn : Func} {a : Tmp} {t : TypeId} (h : fn.results = #[.cell a t]) {tmps : Array Value} {P : Program} {w : World} {g : Nat} {cs : List Value} {d : TypeDesc} (ha : tmps.getD a undef = .pointer (some ⟨g, 0, none⟩)) (hc : w.rangeAt g 0 cs) (hu : P.underlying t = some d) (hd : d.isRow = true) (hi : (P.info? t).map (·.size) = some cs.length) : (results fn tmps).run P w = .ok (.agg cs.toArray) w := by
  have := run_loadVar_mid (P := P) w g 0 t cs d hc hu hd hi
  rw [Array.getD_eq_getD_getElem?] at ha
  simp [results, h, ha, asAddr, this]
theorem LMem.lets {w : World} {q : Nat} {S : Nat → Prop} {L : Law} (h : LMem w q S L) : ∃ al cl, w.cell? ⟨q, 1, none⟩ = some (.slice al L.letters.length cl) ∧ Row w S 67 20 (.slice al L.letters.length cl) L.letters.length (L.letters.flatMap Ltr.cells) ∧ q < w.heap.size := by
  obtain ⟨vm, vl, vb, vt, vs, vo, vn, hb⟩ := h.ex
  have hr : Row w S 67 20 vl L.letters.length (L.letters.flatMap Ltr.cells) := hb.row 1 _ _ _ rfl rfl rfl
  obtain ⟨al, cl, rfl⟩ := hr.isSlice
  exact ⟨al, cl, cell_at hb.box 1, hr, lt_at hb.box⟩
set_option maxRecDepth 1000000 in
set_option maxHeartbeats 16000000 in
theorem lforged {w : World} {q : Nat} {S R : Nat → Prop} {L : Law} (hL : LMem w q S L) {x : Nat × Nat} {m : Mem} (hr : RMem w x.2 R w.heap.size m []) (hh : m.high.Ok) (hlt : ∀ l ∈ L.letters, LOk l) (hl2 : L.letters.length ≤ 2000) (o : OpD) (ho : o.Ok) :
    Calls Tryz.prog 22 #[.pointer (some ⟨q, 0, none⟩), .agg #[.pointer (some ⟨x.1, 0, none⟩), .pointer (some ⟨x.2, 0, none⟩)], .agg o.cells] w fun e w' => ∃ X : Msg, FOk X ∧ e = .returned (.agg X.cells.toArray) ∧ Below w.heap.size w w' := by
  obtain ⟨al, cl, q1, hrow, hq⟩ := hL.lets
  have HRO : Hid (Row w S 67 20 (.slice al L.letters.length cl) L.letters.length (L.letters.flatMap Ltr.cells)) := hrow
  have HLT : Hid (∀ l ∈ L.letters, LOk l) := hlt
  have HQ1 : Hid (∀ W, Below w.heap.size w W → W.cell? ⟨q, 1, none⟩ = some (.slice al L.letters.length cl)) := fun W hW => (hW.cell (p := ⟨q, 1, none⟩) hq).trans q1
  have HHI : Hid (∀ W, Below w.heap.size w W → (rowVar 39 ⟨x.2, 5, none⟩).run Tryz.prog W = .ok (.agg #[.int .i64 m.high.view, .int .u64 m.high.block, .int .u64 m.high.s0, .int .u64 m.high.s1, .int .u64 m.high.s2, .int .u64 m.high.s3]) W) := fun W hW => by
    have h := (hr.below hW).see
    refine rowVar_mid W x.2 5 39 [.int .i64 m.high.view, .int .u64 m.high.block, .int .u64 m.high.s0, .int .u64 m.high.s1, .int .u64 m.high.s2, .int .u64 m.high.s3] _ (fun j v hv => ?_) Tryz.underlying39 rfl (by kernel_rfl)
    have hj : j < 6 := (List.getElem?_eq_some_iff.1 hv).1
    rcases (by omega : j = 0 ∨ j = 1 ∨ j = 2 ∨ j = 3 ∨ j = 4 ∨ j = 5) with rfl | rfl | rfl | rfl | rfl | rfl <;> cases hv
    · exact h.c5
    · exact h.c6
    · exact h.c7
    · exact h.c8
    · exact h.c9
    · exact h.c10
  have HHK : Hid m.high.Ok := hh
  generalize m.high = hg at HHI HHK
  clear hr hL hrow hlt hh q1
  obtain ⟨hv, hb, h0, h1, h2, h3⟩ := hg
  dsimp only at HHI
  have HOO : Hid o.Ok := ho
  have oa0 := ho.a0
  have oa1 := ho.a1
  obtain ⟨k, on, a, b, s, n, m0, m1, m2, bv, jv, jb, j0, j1, j2, j3, c, nu, cv, cb, c0, c1, c2, c3, sl⟩ := o
  dsimp only [OpD.cells] at *
  clear ho
  have onu := HOO.out.nu0
  have onu1 := HOO.out.nu1
  dsimp only at onu onu1
  obtain ⟨nn, rfl⟩ : ∃ nn : Nat, nu = (nn : Int) := ⟨nu.toNat, by omega⟩
  have LP : Hid (0 < L.letters.length → ∀ W, Calls Tryz.prog 10 #[.int .i64 a, .int .i64 L.letters.length] W fun e w' => e = .returned (.int .i64 (pickN a L.letters.length)) ∧ w' = W) := fun hl W => lpick a L.letters.length oa0 oa1 hl (by omega) W
  obtain ⟨W0, hW0⟩ : ∃ W, W = ((w.alloc (.cells #[.pointer (some ⟨x.1, 0, none⟩), .pointer (some ⟨x.2, 0, none⟩)] 50)).alloc (.cells #[.int .i64 k, .int .i64 on, .int .i64 a, .int .i64 b, .string s, .int .u64 n, .int .i64 m0, .int .i64 m1, .int .i64 m2, .int .i64 bv, .int .i64 jv, .int .u64 jb, .int .u64 j0, .int .u64 j1, .int .u64 j2, .int .u64 j3, .string c, .int .u64 (nn : Int), .int .i64 cv, .int .u64 cb, .int .u64 c0, .int .u64 c1, .int .u64 c2, .int .u64 c3, .int .u64 sl] 45)).alloc (.cells #[.int .i64 0, .int .i64 0, .int .i64 0, .int .i64 0, .int .i64 0, .int .u64 0, .int .u64 0, .int .u64 0, .int .u64 0, .int .u64 0, .string ⟨#[]⟩, .int .u64 0, .int .i64 0, .int .u64 0, .int .u64 0, .int .u64 0, .int .u64 0, .int .u64 0, .int .u64 0] 43) := ⟨_, rfl⟩
  have hz0 : W0.heap.size = w.heap.size + 3 := by rw [hW0]; simp
  have HB0 : Hid (Below w.heap.size w W0) := by rw [hW0]; exact bnext (bnext (below_alloc _ _) (below_alloc _ _)) (below_alloc _ _)
  have H40 : Hid (W0.heap[w.heap.size]? = some (.cells #[.pointer (some ⟨x.1, 0, none⟩), .pointer (some ⟨x.2, 0, none⟩)] 50 (0, 0))) := by rw [hW0]; exact (Below.heap_alloc _ _ _ (by simp; omega)).trans ((Below.heap_alloc _ _ _ (by simp)).trans (heap_alloc_new w _))
  have H50 : Hid (W0.heap[w.heap.size + 1]? = some (.cells #[.int .i64 k, .int .i64 on, .int .i64 a, .int .i64 b, .string s, .int .u64 n, .int .i64 m0, .int .i64 m1, .int .i64 m2, .int .i64 bv, .int .i64 jv, .int .u64 jb, .int .u64 j0, .int .u64 j1, .int .u64 j2, .int .u64 j3, .string c, .int .u64 (nn : Int), .int .i64 cv, .int .u64 cb, .int .u64 c0, .int .u64 c1, .int .u64 c2, .int .u64 c3, .int .u64 sl] 45 (0, 0))) := by rw [hW0]; refine (Below.heap_alloc _ _ _ (by simp)).trans ?_; rw [show w.heap.size + 1 = (w.alloc (.cells #[.pointer (some ⟨x.1, 0, none⟩), .pointer (some ⟨x.2, 0, none⟩)] 50)).heap.size by simp]; exact heap_alloc_new _ _
  have H60 : Hid (W0.heap[w.heap.size + 2]? = some (.cells #[.int .i64 0, .int .i64 0, .int .i64 0, .int .i64 0, .int .i64 0, .int .u64 0, .int .u64 0, .int .u64 0, .int .u64 0, .int .u64 0, .string ⟨#[]⟩, .int .u64 0, .int .i64 0, .int .u64 0, .int .u64 0, .int .u64 0, .int .u64 0, .int .u64 0, .int .u64 0] 43 (0, 0))) := by rw [hW0]; rw [show w.heap.size + 2 = ((w.alloc (.cells #[.pointer (some ⟨x.1, 0, none⟩), .pointer (some ⟨x.2, 0, none⟩)] 50)).alloc (.cells #[.int .i64 k, .int .i64 on, .int .i64 a, .int .i64 b, .string s, .int .u64 n, .int .i64 m0, .int .i64 m1, .int .i64 m2, .int .i64 bv, .int .i64 jv, .int .u64 jb, .int .u64 j0, .int .u64 j1, .int .u64 j2, .int .u64 j3, .string c, .int .u64 (nn : Int), .int .i64 cv, .int .u64 cb, .int .u64 c0, .int .u64 c1, .int .u64 c2, .int .u64 c3, .int .u64 sl] 45)).heap.size by rw [World.size_alloc, World.size_alloc]]; exact heap_alloc_new _ _
  have hl1 : (rowVar 43 ⟨w.heap.size + 1, 6, none⟩).run Tryz.prog W0 = .ok (.agg #[.int .i64 m0, .int .i64 m1, .int .i64 m2, .int .i64 bv, .int .i64 jv, .int .u64 jb, .int .u64 j0, .int .u64 j1, .int .u64 j2, .int .u64 j3, .string c, .int .u64 (nn : Int), .int .i64 cv, .int .u64 cb, .int .u64 c0, .int .u64 c1, .int .u64 c2, .int .u64 c3, .int .u64 sl]) W0 := rowVar_mid W0 (w.heap.size + 1) 6 43 [.int .i64 m0, .int .i64 m1, .int .i64 m2, .int .i64 bv, .int .i64 jv, .int .u64 jb, .int .u64 j0, .int .u64 j1, .int .u64 j2, .int .u64 j3, .string c, .int .u64 (nn : Int), .int .i64 cv, .int .u64 cb, .int .u64 c0, .int .u64 c1, .int .u64 c2, .int .u64 c3, .int .u64 sl] _ (box_range H50.out 6 _ (fun j v hv => by
    have hj : j < 19 := (List.getElem?_eq_some_iff.1 hv).1
    rcases (by omega : j = 0 ∨ j = 1 ∨ j = 2 ∨ j = 3 ∨ j = 4 ∨ j = 5 ∨ j = 6 ∨ j = 7 ∨ j = 8 ∨ j = 9 ∨ j = 10 ∨ j = 11 ∨ j = 12 ∨ j = 13 ∨ j = 14 ∨ j = 15 ∨ j = 16 ∨ j = 17 ∨ j = 18) with rfl | rfl | rfl | rfl | rfl | rfl | rfl | rfl | rfl | rfl | rfl | rfl | rfl | rfl | rfl | rfl | rfl | rfl | rfl <;> exact hv)) Tryz.underlying43 rfl (by kernel_rfl)
  have hp1 : (rowPut 43 ⟨W0.heap.size, 0, none⟩ (.agg #[.int .i64 m0, .int .i64 m1, .int .i64 m2, .int .i64 bv, .int .i64 jv, .int .u64 jb, .int .u64 j0, .int .u64 j1, .int .u64 j2, .int .u64 j3, .string c, .int .u64 (nn : Int), .int .i64 cv, .int .u64 cb, .int .u64 c0, .int .u64 c1, .int .u64 c2, .int .u64 c3, .int .u64 sl])).run Tryz.prog (W0.alloc (.cells #[.int .i64 0, .int .i64 0, .int .i64 0, .int .i64 0, .int .i64 0, .int .u64 0, .int .u64 0, .int .u64 0, .int .u64 0, .int .u64 0, .string ⟨#[]⟩, .int .u64 0, .int .i64 0, .int .u64 0, .int .u64 0, .int .u64 0, .int .u64 0, .int .u64 0, .int .u64 0] 43)) = .ok () (W0.alloc (.cells #[.int .i64 m0, .int .i64 m1, .int .i64 m2, .int .i64 bv, .int .i64 jv, .int .u64 jb, .int .u64 j0, .int .u64 j1, .int .u64 j2, .int .u64 j3, .string c, .int .u64 (nn : Int), .int .i64 cv, .int .u64 cb, .int .u64 c0, .int .u64 c1, .int .u64 c2, .int .u64 c3, .int .u64 sl] 43)) := (rowPut_mid _ W0.heap.size 0 43 #[.int .i64 m0, .int .i64 m1, .int .i64 m2, .int .i64 bv, .int .i64 jv, .int .u64 jb, .int .u64 j0, .int .u64 j1, .int .u64 j2, .int .u64 j3, .string c, .int .u64 (nn : Int), .int .i64 cv, .int .u64 cb, .int .u64 c0, .int .u64 c1, .int .u64 c2, .int .u64 c3, .int .u64 sl] (there_box (heap_alloc_new W0 _) 0 19 (by simp)) (by kernel_rfl) (by simp [Value.oneCell'])).trans (by rw [zfill_new, zfill19])
  rw [hz0] at hp1
  have HF1 : Hid (Fg w (W0.alloc (.cells #[.int .i64 m0, .int .i64 m1, .int .i64 m2, .int .i64 bv, .int .i64 jv, .int .u64 jb, .int .u64 j0, .int .u64 j1, .int .u64 j2, .int .u64 j3, .string c, .int .u64 (nn : Int), .int .i64 cv, .int .u64 cb, .int .u64 c0, .int .u64 c1, .int .u64 c2, .int .u64 c3, .int .u64 sl] 43)) x #[.int .i64 k, .int .i64 on, .int .i64 a, .int .i64 b, .string s, .int .u64 n, .int .i64 m0, .int .i64 m1, .int .i64 m2, .int .i64 bv, .int .i64 jv, .int .u64 jb, .int .u64 j0, .int .u64 j1, .int .u64 j2, .int .u64 j3, .string c, .int .u64 (nn : Int), .int .i64 cv, .int .u64 cb, .int .u64 c0, .int .u64 c1, .int .u64 c2, .int .u64 c3, .int .u64 sl] ⟨m0, m1, m2, ⟨bv, ⟨jv, jb, j0, j1, j2, j3⟩, c⟩, nn, ⟨cv, cb, c0, c1, c2, c3⟩, sl⟩) := by
    refine ⟨bnext HB0.out (below_alloc _ _), box_below H40.out (below_alloc _ _), box_below H50.out (below_alloc _ _), ⟨_, rfl, box_below H60.out (below_alloc _ _)⟩, ?_, ⟨⟨⟨HOO.out.bv0, HOO.out.bv1, ⟨HOO.out.jv0, HOO.out.jv1, HOO.out.jb1⟩, HOO.out.c1⟩, by show nn < _; omega, ⟨HOO.out.cv0, HOO.out.cv1, HOO.out.cb1⟩⟩, HOO.out.m00, HOO.out.m01, HOO.out.m10, HOO.out.m11, HOO.out.m20, HOO.out.m21⟩⟩
    rw [← hz0]; exact heap_alloc_new W0 _
  obtain ⟨oc, hoc⟩ : ∃ oc : Array Value, oc = #[.int .i64 k, .int .i64 on, .int .i64 a, .int .i64 b, .string s, .int .u64 n, .int .i64 m0, .int .i64 m1, .int .i64 m2, .int .i64 bv, .int .i64 jv, .int .u64 jb, .int .u64 j0, .int .u64 j1, .int .u64 j2, .int .u64 j3, .string c, .int .u64 (nn : Int), .int .i64 cv, .int .u64 cb, .int .u64 c0, .int .u64 c1, .int .u64 c2, .int .u64 c3, .int .u64 sl] := ⟨_, rfl⟩
  have HO2 : Hid (oc[2]? = some (.int .i64 a)) := by show _ = _; rw [hoc]; rfl
  have HO3 : Hid (oc[3]? = some (.int .i64 b)) := by show _ = _; rw [hoc]; rfl
  rw [← hoc] at HF1
  go_enter Tryz.func22, Tryz.ntmps22
  go_upto_region 1 with fail
  rw [← hW0]
  clear hW0 hoc
  go_upto_region 2 with fail
  clear hl1 hp1 H40 H50 H60 HB0 HOO
  generalize hW1 : W0.alloc (.cells #[.int .i64 m0, .int .i64 m1, .int .i64 m2, .int .i64 bv, .int .i64 jv, .int .u64 jb, .int .u64 j0, .int .u64 j1, .int .u64 j2, .int .u64 j3, .string c, .int .u64 (nn : Int), .int .i64 cv, .int .u64 cb, .int .u64 c0, .int .u64 c1, .int .u64 c2, .int .u64 c3, .int .u64 sl] 43) = W1 at HF1 ⊢
  clear hW1
  have a3 : W1.cell? ⟨w.heap.size + 1, 3, none⟩ = some (.int .i64 b) := (cell_at HF1.out.h5 3).trans HO3.out
  have a1 := HQ1.out W1 HF1.out.b
  go_cut [23] (fun s W' => ∃ bb : Bool, s = .bool bb ∧ Hid (bb = true → 0 < L.letters.length) ∧ Hid (W' = W1))
  case first =>
    by_cases hb16 : (0 : Int) < bits BinOp.and IntKind.i64 b 16
    · by_cases hll : 0 < L.letters.length
      · have hlI : (0 : Int) < (L.letters.length : Int) := by omega
        go_wp2
        go_meet
        case rel => exact ⟨true, rfl, fun _ => hll, rfl⟩
      · have hlI : ¬ (0 : Int) < (L.letters.length : Int) := by omega
        go_wp2
        go_meet
        case rel => exact ⟨false, rfl, (fun h => by cases h), rfl⟩
    · go_wp2
      go_meet
      case rel => exact ⟨false, rfl, (fun h => by cases h), rfl⟩
  case rest =>
  obtain ⟨bb, rfl, hbl, hwc⟩ := hcut
  rw [hwc.out]
  clear hwc a3 a1
  go_upto_if 23 with fail
  go_cut [8] (fun _ W' => ∃ X' : Msg, Hid (Fg w W' x oc X'))
  case first =>
    cases bb with
    | false =>
      go_wp2
      go_meet
      case rel => exact ⟨_, HF1.out⟩
    | true =>
      have hll := hbl.out rfl
      have HLP := LP.out hll
      have hin := pickN_lt a L.letters.length hll
      generalize pickN a L.letters.length = i at HLP hin
      have HLQ : Hid (∀ W, Calls Tryz.prog 10 #[.int .i64 a, .int .i64 L.letters.length] W fun e w' => e = .returned (.int .i64 i) ∧ w' = W) := HLP
      clear HLP hbl LP
      obtain ⟨g, off, rfl, hSg, hg, hcap⟩ := HRO.out.place hll
      have hel := HRO.out.elemAt lcells_len i hin
      have HLO : Hid (LOk L.letters[i]) := HLT.out _ (List.getElem_mem hin)
      generalize L.letters[i] = l at hel HLO
      obtain ⟨l0, ⟨lk, lf, lv, ⟨lbv, ⟨ljv, ljb, lj0, lj1, lj2, lj3⟩, lbc⟩, lnu, ⟨lcv, lcb, lc0, lc1, lc2, lc3⟩, lsl⟩⟩ := l
      have hi1 : (i : Int) < (L.letters.length : Int) := by omega
      have HS3 : Hid (∀ W', Below W1.heap.size W1 W' → Below W1.heap.size W1 W' ∧ W'.cell? ⟨q, 1, none⟩ = some (.slice (some ⟨g, off, none⟩) L.letters.length cl) ∧ W'.cell? ⟨w.heap.size + 1, 2, none⟩ = some (.int .i64 a) ∧ (rowVar 67 ⟨g, off + i * 20, none⟩).run Tryz.prog W' = .ok (.agg #[.int .i64 l0, .int .i64 lk, .int .i64 lf, .int .i64 lv, .int .i64 lbv, .int .i64 ljv, .int .u64 ljb, .int .u64 lj0, .int .u64 lj1, .int .u64 lj2, .int .u64 lj3, .string lbc, .int .u64 lnu, .int .i64 lcv, .int .u64 lcb, .int .u64 lc0, .int .u64 lc1, .int .u64 lc2, .int .u64 lc3, .int .u64 lsl]) W') := fun W' hb => by
        refine ⟨hb, HQ1.out W' (bnext HF1.out.b hb), (cell_at (box_below HF1.out.h5 hb) 2).trans HO2.out, ?_⟩
        exact rowVar_mid W' g (off + i * 20) _ (Ltr.cells ⟨l0, ⟨lk, lf, lv, ⟨lbv, ⟨ljv, ljb, lj0, lj1, lj2, lj3⟩, lbc⟩, lnu, ⟨lcv, lcb, lc0, lc1, lc2, lc3⟩, lsl⟩⟩) _ (fun j v hv => ((bnext HF1.out.b hb).cell (p := ⟨g, off + i * 20 + j, none⟩) hg).trans (hel j v hv)) Tryz.underlying67 rfl ltr_size
      have hpu : (rowPut 67 ⟨W1.heap.size, 0, none⟩ (.agg #[.int .i64 l0, .int .i64 lk, .int .i64 lf, .int .i64 lv, .int .i64 lbv, .int .i64 ljv, .int .u64 ljb, .int .u64 lj0, .int .u64 lj1, .int .u64 lj2, .int .u64 lj3, .string lbc, .int .u64 lnu, .int .i64 lcv, .int .u64 lcb, .int .u64 lc0, .int .u64 lc1, .int .u64 lc2, .int .u64 lc3, .int .u64 lsl])).run Tryz.prog (W1.alloc (.cells #[.int .i64 0, .int .i64 0, .int .i64 0, .int .i64 0, .int .i64 0, .int .i64 0, .int .u64 0, .int .u64 0, .int .u64 0, .int .u64 0, .int .u64 0, .string ⟨#[]⟩, .int .u64 0, .int .i64 0, .int .u64 0, .int .u64 0, .int .u64 0, .int .u64 0, .int .u64 0, .int .u64 0] 67)).drew = .ok () (W1.alloc (.cells #[.int .i64 l0, .int .i64 lk, .int .i64 lf, .int .i64 lv, .int .i64 lbv, .int .i64 ljv, .int .u64 ljb, .int .u64 lj0, .int .u64 lj1, .int .u64 lj2, .int .u64 lj3, .string lbc, .int .u64 lnu, .int .i64 lcv, .int .u64 lcb, .int .u64 lc0, .int .u64 lc1, .int .u64 lc2, .int .u64 lc3, .int .u64 lsl] 67)).drew := by
        have h1 := rowPut_mid (P := Tryz.prog) (W1.alloc (.cells #[.int .i64 0, .int .i64 0, .int .i64 0, .int .i64 0, .int .i64 0, .int .i64 0, .int .u64 0, .int .u64 0, .int .u64 0, .int .u64 0, .int .u64 0, .string ⟨#[]⟩, .int .u64 0, .int .i64 0, .int .u64 0, .int .u64 0, .int .u64 0, .int .u64 0, .int .u64 0, .int .u64 0] 67)).drew W1.heap.size 0 67 #[.int .i64 l0, .int .i64 lk, .int .i64 lf, .int .i64 lv, .int .i64 lbv, .int .i64 ljv, .int .u64 ljb, .int .u64 lj0, .int .u64 lj1, .int .u64 lj2, .int .u64 lj3, .string lbc, .int .u64 lnu, .int .i64 lcv, .int .u64 lcb, .int .u64 lc0, .int .u64 lc1, .int .u64 lc2, .int .u64 lc3, .int .u64 lsl] (there_box (show (W1.alloc (.cells #[.int .i64 0, .int .i64 0, .int .i64 0, .int .i64 0, .int .i64 0, .int .i64 0, .int .u64 0, .int .u64 0, .int .u64 0, .int .u64 0, .int .u64 0, .string ⟨#[]⟩, .int .u64 0, .int .i64 0, .int .u64 0, .int .u64 0, .int .u64 0, .int .u64 0, .int .u64 0, .int .u64 0] 67)).drew.heap[W1.heap.size]? = _ from heap_alloc_new W1 _) 0 20 (by simp)) ltr_size (by simp [Value.oneCell'])
        rw [h1, zdrew, zfill_new, zfill20]
      clear hel hcap hSg hg
      go_upto_region 3 with fail
      refine lfg_r3 HLQ HS3 hi1 hpu ?_
      intro q24 q25 q26 q27 q28 q29 q30 q31 q32 q33 q34 q35 q36 q37
      simp only [Exit.then]
      obtain ⟨W4, hW4⟩ : ∃ W, W = (W1.alloc (.cells #[.int .i64 l0, .int .i64 lk, .int .i64 lf, .int .i64 lv, .int .i64 lbv, .int .i64 ljv, .int .u64 ljb, .int .u64 lj0, .int .u64 lj1, .int .u64 lj2, .int .u64 lj3, .string lbc, .int .u64 lnu, .int .i64 lcv, .int .u64 lcb, .int .u64 lc0, .int .u64 lc1, .int .u64 lc2, .int .u64 lc3, .int .u64 lsl] 67)).drew := ⟨_, rfl⟩
      have HF4' : Hid (Fg w W4 x oc ⟨m0, m1, m2, ⟨bv, ⟨jv, jb, j0, j1, j2, j3⟩, c⟩, nn, ⟨cv, cb, c0, c1, c2, c3⟩, sl⟩) := by rw [hW4]; exact HF1.out.next (below_alloc _ _).drew
      have HL4 : Hid (W4.heap[W1.heap.size]? = some (.cells #[.int .i64 l0, .int .i64 lk, .int .i64 lf, .int .i64 lv, .int .i64 lbv, .int .i64 ljv, .int .u64 ljb, .int .u64 lj0, .int .u64 lj1, .int .u64 lj2, .int .u64 lj3, .string lbc, .int .u64 lnu, .int .i64 lcv, .int .u64 lcb, .int .u64 lc0, .int .u64 lc1, .int .u64 lc2, .int .u64 lc3, .int .u64 lsl] 67 (0, 0))) := by rw [hW4]; exact heap_alloc_new W1 _
      have HNB : Hid (W1.heap.size ≠ w.heap.size + 3) := by show _ ≠ _; have := lt_at HF1.out.h7; omega
      rw [← hW4]
      clear hW4 hpu HS3 HLQ HF1
      generalize W1.heap.size = bl at HL4 HNB ⊢
      obtain ⟨X4, hX4⟩ : ∃ X4 : Msg, X4 = ⟨m0, m1, m2, ⟨bv, ⟨jv, jb, j0, j1, j2, j3⟩, c⟩, nn, ⟨cv, cb, c0, c1, c2, c3⟩, sl⟩ := ⟨_, rfl⟩
      rw [← hX4] at HF4'
      clear hX4
      obtain ⟨xk, xf, xv, ⟨bv, ⟨jv, jb, j0, j1, j2, j3⟩, bcm⟩, xn, ⟨cv, cb, c0, c1, c2, c3⟩, xs⟩ := X4
      have HF4 : Hid (Fg w W4 x oc ⟨xk, xf, xv, ⟨bv, ⟨jv, jb, j0, j1, j2, j3⟩, bcm⟩, xn, ⟨cv, cb, c0, c1, c2, c3⟩, xs⟩) := HF4'
      clear HF4'
      have lk4 : W4.cell? ⟨bl, 1, none⟩ = some (.int .i64 lk) := cell_at HL4.out 1
      by_cases lk1 : lk = 1
      rotate_left
      · have lkb : (lk == 1) = false := by simp [lk1]
        go_wp2
        go_meet
        case rel => exact ⟨_, HF4.out⟩
      have lkb : (lk == 1) = true := by simp [lk1]
      have hlb : (rowVar 41 ⟨bl, 4, none⟩).run Tryz.prog W4 = .ok (.agg #[.int .i64 lbv, .int .i64 ljv, .int .u64 ljb, .int .u64 lj0, .int .u64 lj1, .int .u64 lj2, .int .u64 lj3, .string lbc]) W4 := rowVar_mid W4 bl 4 41 [.int .i64 lbv, .int .i64 ljv, .int .u64 ljb, .int .u64 lj0, .int .u64 lj1, .int .u64 lj2, .int .u64 lj3, .string lbc] _ (box_range HL4.out 4 _ (fun j v hv => by
        have hj : j < 8 := (List.getElem?_eq_some_iff.1 hv).1
        rcases (by omega : j = 0 ∨ j = 1 ∨ j = 2 ∨ j = 3 ∨ j = 4 ∨ j = 5 ∨ j = 6 ∨ j = 7) with rfl | rfl | rfl | rfl | rfl | rfl | rfl | rfl <;> exact hv)) Tryz.underlying41 rfl (by kernel_rfl)
      have HNU : Hid (Calls Tryz.prog 27 #[.agg #[.int .i64 lbv, .int .i64 ljv, .int .u64 ljb, .int .u64 lj0, .int .u64 lj1, .int .u64 lj2, .int .u64 lj3, .string lbc]] W4 fun e w' => e = .returned (.int .u64 (Blk.num ⟨lbv, ⟨ljv, ljb, lj0, lj1, lj2, lj3⟩, lbc⟩)) ∧ Below W4.heap.size W4 w') := rnum ⟨lbv, ⟨ljv, ljb, lj0, lj1, lj2, lj3⟩, lbc⟩ HLO.out.1.b W4
      have hnl : Blk.num ⟨lbv, ⟨ljv, ljb, lj0, lj1, lj2, lj3⟩, lbc⟩ < 18446744073709551616 := num_lt _
      generalize Blk.num ⟨lbv, ⟨ljv, ljb, lj0, lj1, lj2, lj3⟩, lbc⟩ = nb at HNU hnl
      go_upto_region 6 with (go_at_call 27; refine HNU.out.mono ?_; rintro e w5 ⟨rfl, hb5⟩; have HF5 : Hid (Fg w w5 x oc ⟨xk, xf, xv, ⟨bv, ⟨jv, jb, j0, j1, j2, j3⟩, bcm⟩, xn, ⟨cv, cb, c0, c1, c2, c3⟩, xs⟩) := HF4.out.next hb5; have HL5 : Hid (w5.heap[bl]? = some (.cells #[.int .i64 l0, .int .i64 lk, .int .i64 lf, .int .i64 lv, .int .i64 lbv, .int .i64 ljv, .int .u64 ljb, .int .u64 lj0, .int .u64 lj1, .int .u64 lj2, .int .u64 lj3, .string lbc, .int .u64 lnu, .int .i64 lcv, .int .u64 lcb, .int .u64 lc0, .int .u64 lc1, .int .u64 lc2, .int .u64 lc3, .int .u64 lsl] 67 (0, 0))) := box_below HL4.out hb5; clear hb5; have q11 : w5.cell? ⟨w.heap.size + 3, 11, none⟩ = some (.int .u64 xn) := cell_at HF5.out.h7 11; have f11 : w5.frozen? ⟨w.heap.size + 3, 11, none⟩ = false := free_at HF5.out.h7 11)
      clear hlb lk4
      obtain ⟨W6, hW6⟩ : ∃ W, W = w5.setCell ⟨w.heap.size + 3, 11, none⟩ (.int .u64 nb) := ⟨_, rfl⟩
      have HF6 : Hid (Fg w W6 x oc ⟨xk, xf, xv, ⟨bv, ⟨jv, jb, j0, j1, j2, j3⟩, bcm⟩, nb, ⟨cv, cb, c0, c1, c2, c3⟩, xs⟩) := by rw [hW6]; exact HF5.out.set 11 (.int .u64 nb) (by kernel_rfl) (HF5.out.ok.num hnl)
      have HL6 : Hid (W6.heap[bl]? = some (.cells #[.int .i64 l0, .int .i64 lk, .int .i64 lf, .int .i64 lv, .int .i64 lbv, .int .i64 ljv, .int .u64 ljb, .int .u64 lj0, .int .u64 lj1, .int .u64 lj2, .int .u64 lj3, .string lbc, .int .u64 lnu, .int .i64 lcv, .int .u64 lcb, .int .u64 lc0, .int .u64 lc1, .int .u64 lc2, .int .u64 lc3, .int .u64 lsl] 67 (0, 0))) := by rw [hW6]; exact Fg.other HL5.out HNB.out
      rw [← hW6]
      clear hW6
      clear q11 f11 HL5 HF5 HL4 HF4 HNU
      have k0 : W6.cell? ⟨w.heap.size + 3, 0, none⟩ = some (.int .i64 xk) := cell_at HF6.out.h7 0
      by_cases k2 : xk = 2
      · have k2b : (xk == 2) = true := by simp [k2]
        have u3 : W6.cell? ⟨bl, 3, none⟩ = some (.int .i64 lv) := cell_at HL6.out 3
        have k2c : W6.cell? ⟨w.heap.size + 3, 2, none⟩ = some (.int .i64 xv) := cell_at HF6.out.h7 2
        have f2 : W6.frozen? ⟨w.heap.size + 3, 2, none⟩ = false := free_at HF6.out.h7 2
        go_upto_region 8 with fail
        obtain ⟨W7, hW7⟩ : ∃ W, W = W6.setCell ⟨w.heap.size + 3, 2, none⟩ (.int .i64 lv) := ⟨_, rfl⟩
        have HF7 : Hid (Fg w W7 x oc ⟨xk, xf, lv, ⟨bv, ⟨jv, jb, j0, j1, j2, j3⟩, bcm⟩, nb, ⟨cv, cb, c0, c1, c2, c3⟩, xs⟩) := by rw [hW7]; exact HF6.out.set 2 (.int .i64 lv) (by kernel_rfl) (HF6.out.ok.vw HLO.out.2.1 HLO.out.2.2)
        have HL7 : Hid (W7.heap[bl]? = some (.cells #[.int .i64 l0, .int .i64 lk, .int .i64 lf, .int .i64 lv, .int .i64 lbv, .int .i64 ljv, .int .u64 ljb, .int .u64 lj0, .int .u64 lj1, .int .u64 lj2, .int .u64 lj3, .string lbc, .int .u64 lnu, .int .i64 lcv, .int .u64 lcb, .int .u64 lc0, .int .u64 lc1, .int .u64 lc2, .int .u64 lc3, .int .u64 lsl] 67 (0, 0))) := by rw [hW7]; exact Fg.other HL6.out HNB.out
        rw [← hW7]
        clear hW7
        clear u3 k2c f2 k0 k2b
        have k11 : W7.cell? ⟨w.heap.size + 3, 11, none⟩ = some (.int .u64 nb) := cell_at HF7.out.h7 11
        have k13 : W7.cell? ⟨w.heap.size + 3, 13, none⟩ = some (.int .u64 cb) := cell_at HF7.out.h7 13
        have f13 : W7.frozen? ⟨w.heap.size + 3, 13, none⟩ = false := free_at HF7.out.h7 13
        go_upto_region 9 with fail
        obtain ⟨W8, hW8⟩ : ∃ W, W = W7.setCell ⟨w.heap.size + 3, 13, none⟩ (.int .u64 nb) := ⟨_, rfl⟩
        have HF8 : Hid (Fg w W8 x oc ⟨xk, xf, lv, ⟨bv, ⟨jv, jb, j0, j1, j2, j3⟩, bcm⟩, nb, ⟨cv, nb, c0, c1, c2, c3⟩, xs⟩) := by rw [hW8]; exact HF7.out.set 13 (.int .u64 nb) (by kernel_rfl) (HF7.out.ok.crt (c := ⟨cv, nb, c0, c1, c2, c3⟩) ⟨HF7.out.ok.ok.c.v0, HF7.out.ok.ok.c.v1, hnl⟩)
        have HL8 : Hid (W8.heap[bl]? = some (.cells #[.int .i64 l0, .int .i64 lk, .int .i64 lf, .int .i64 lv, .int .i64 lbv, .int .i64 ljv, .int .u64 ljb, .int .u64 lj0, .int .u64 lj1, .int .u64 lj2, .int .u64 lj3, .string lbc, .int .u64 lnu, .int .i64 lcv, .int .u64 lcb, .int .u64 lc0, .int .u64 lc1, .int .u64 lc2, .int .u64 lc3, .int .u64 lsl] 67 (0, 0))) := by rw [hW8]; exact Fg.other HL7.out HNB.out
        rw [← hW8]
        clear hW8
        clear k11 k13 f13
        have u3 : W8.cell? ⟨bl, 3, none⟩ = some (.int .i64 lv) := cell_at HL8.out 3
        have k12 : W8.cell? ⟨w.heap.size + 3, 12, none⟩ = some (.int .i64 cv) := cell_at HF8.out.h7 12
        have f12 : W8.frozen? ⟨w.heap.size + 3, 12, none⟩ = false := free_at HF8.out.h7 12
        go_upto_region 10 with fail
        obtain ⟨W9, hW9⟩ : ∃ W, W = W8.setCell ⟨w.heap.size + 3, 12, none⟩ (.int .i64 lv) := ⟨_, rfl⟩
        have HF9 : Hid (Fg w W9 x oc ⟨xk, xf, lv, ⟨bv, ⟨jv, jb, j0, j1, j2, j3⟩, bcm⟩, nb, ⟨lv, nb, c0, c1, c2, c3⟩, xs⟩) := by rw [hW9]; exact HF8.out.set 12 (.int .i64 lv) (by kernel_rfl) (HF8.out.ok.crt (c := ⟨lv, nb, c0, c1, c2, c3⟩) ⟨HLO.out.2.1, HLO.out.2.2, hnl⟩)
        have HL9 : Hid (W9.heap[bl]? = some (.cells #[.int .i64 l0, .int .i64 lk, .int .i64 lf, .int .i64 lv, .int .i64 lbv, .int .i64 ljv, .int .u64 ljb, .int .u64 lj0, .int .u64 lj1, .int .u64 lj2, .int .u64 lj3, .string lbc, .int .u64 lnu, .int .i64 lcv, .int .u64 lcb, .int .u64 lc0, .int .u64 lc1, .int .u64 lc2, .int .u64 lc3, .int .u64 lsl] 67 (0, 0))) := by rw [hW9]; exact Fg.other HL8.out HNB.out
        rw [← hW9]
        clear hW9
        clear u3 k12 f12
        have k11 : W9.cell? ⟨w.heap.size + 3, 11, none⟩ = some (.int .u64 nb) := cell_at HF9.out.h7 11
        have k5 : W9.cell? ⟨w.heap.size + 3, 5, none⟩ = some (.int .u64 jb) := cell_at HF9.out.h7 5
        have f5 : W9.frozen? ⟨w.heap.size + 3, 5, none⟩ = false := free_at HF9.out.h7 5
        go_upto_region 11 with fail
        obtain ⟨W10, hW10⟩ : ∃ W, W = W9.setCell ⟨w.heap.size + 3, 5, none⟩ (.int .u64 nb) := ⟨_, rfl⟩
        have HF10 : Hid (Fg w W10 x oc ⟨xk, xf, lv, ⟨bv, ⟨jv, nb, j0, j1, j2, j3⟩, bcm⟩, nb, ⟨lv, nb, c0, c1, c2, c3⟩, xs⟩) := by rw [hW10]; exact HF9.out.set 5 (.int .u64 nb) (by kernel_rfl) (HF9.out.ok.just (c := ⟨jv, nb, j0, j1, j2, j3⟩) ⟨HF9.out.ok.ok.b.j.v0, HF9.out.ok.ok.b.j.v1, hnl⟩)
        have HL10 : Hid (W10.heap[bl]? = some (.cells #[.int .i64 l0, .int .i64 lk, .int .i64 lf, .int .i64 lv, .int .i64 lbv, .int .i64 ljv, .int .u64 ljb, .int .u64 lj0, .int .u64 lj1, .int .u64 lj2, .int .u64 lj3, .string lbc, .int .u64 lnu, .int .i64 lcv, .int .u64 lcb, .int .u64 lc0, .int .u64 lc1, .int .u64 lc2, .int .u64 lc3, .int .u64 lsl] 67 (0, 0))) := by rw [hW10]; exact Fg.other HL9.out HNB.out
        rw [← hW10]
        clear hW10
        clear k11 k5 f5
        have u3 : W10.cell? ⟨bl, 3, none⟩ = some (.int .i64 lv) := cell_at HL10.out 3
        have k4 : W10.cell? ⟨w.heap.size + 3, 4, none⟩ = some (.int .i64 jv) := cell_at HF10.out.h7 4
        have f4 : W10.frozen? ⟨w.heap.size + 3, 4, none⟩ = false := free_at HF10.out.h7 4
        have HF11 : Hid (Fg w (W10.setCell ⟨w.heap.size + 3, 4, none⟩ (.int .i64 lv)) x oc ⟨xk, xf, lv, ⟨bv, ⟨lv, nb, j0, j1, j2, j3⟩, bcm⟩, nb, ⟨lv, nb, c0, c1, c2, c3⟩, xs⟩) := HF10.out.set 4 (.int .i64 lv) (by kernel_rfl) (HF10.out.ok.just (c := ⟨lv, nb, j0, j1, j2, j3⟩) ⟨HLO.out.2.1, HLO.out.2.2, hnl⟩)
        go_wp2
        go_meet
        case rel => exact ⟨_, HF11.out⟩
      · have k2b : (xk == 2) = false := by simp [k2]
        go_upto_region 8 with fail
        clear k0 k2b
        have k11 : W6.cell? ⟨w.heap.size + 3, 11, none⟩ = some (.int .u64 nb) := cell_at HF6.out.h7 11
        have k13 : W6.cell? ⟨w.heap.size + 3, 13, none⟩ = some (.int .u64 cb) := cell_at HF6.out.h7 13
        have f13 : W6.frozen? ⟨w.heap.size + 3, 13, none⟩ = false := free_at HF6.out.h7 13
        go_upto_region 9 with fail
        obtain ⟨W8, hW8⟩ : ∃ W, W = W6.setCell ⟨w.heap.size + 3, 13, none⟩ (.int .u64 nb) := ⟨_, rfl⟩
        have HF8 : Hid (Fg w W8 x oc ⟨xk, xf, xv, ⟨bv, ⟨jv, jb, j0, j1, j2, j3⟩, bcm⟩, nb, ⟨cv, nb, c0, c1, c2, c3⟩, xs⟩) := by rw [hW8]; exact HF6.out.set 13 (.int .u64 nb) (by kernel_rfl) (HF6.out.ok.crt (c := ⟨cv, nb, c0, c1, c2, c3⟩) ⟨HF6.out.ok.ok.c.v0, HF6.out.ok.ok.c.v1, hnl⟩)
        have HL8 : Hid (W8.heap[bl]? = some (.cells #[.int .i64 l0, .int .i64 lk, .int .i64 lf, .int .i64 lv, .int .i64 lbv, .int .i64 ljv, .int .u64 ljb, .int .u64 lj0, .int .u64 lj1, .int .u64 lj2, .int .u64 lj3, .string lbc, .int .u64 lnu, .int .i64 lcv, .int .u64 lcb, .int .u64 lc0, .int .u64 lc1, .int .u64 lc2, .int .u64 lc3, .int .u64 lsl] 67 (0, 0))) := by rw [hW8]; exact Fg.other HL6.out HNB.out
        rw [← hW8]
        clear hW8
        clear k11 k13 f13
        have u3 : W8.cell? ⟨bl, 3, none⟩ = some (.int .i64 lv) := cell_at HL8.out 3
        have k12 : W8.cell? ⟨w.heap.size + 3, 12, none⟩ = some (.int .i64 cv) := cell_at HF8.out.h7 12
        have f12 : W8.frozen? ⟨w.heap.size + 3, 12, none⟩ = false := free_at HF8.out.h7 12
        go_upto_region 10 with fail
        obtain ⟨W9, hW9⟩ : ∃ W, W = W8.setCell ⟨w.heap.size + 3, 12, none⟩ (.int .i64 lv) := ⟨_, rfl⟩
        have HF9 : Hid (Fg w W9 x oc ⟨xk, xf, xv, ⟨bv, ⟨jv, jb, j0, j1, j2, j3⟩, bcm⟩, nb, ⟨lv, nb, c0, c1, c2, c3⟩, xs⟩) := by rw [hW9]; exact HF8.out.set 12 (.int .i64 lv) (by kernel_rfl) (HF8.out.ok.crt (c := ⟨lv, nb, c0, c1, c2, c3⟩) ⟨HLO.out.2.1, HLO.out.2.2, hnl⟩)
        have HL9 : Hid (W9.heap[bl]? = some (.cells #[.int .i64 l0, .int .i64 lk, .int .i64 lf, .int .i64 lv, .int .i64 lbv, .int .i64 ljv, .int .u64 ljb, .int .u64 lj0, .int .u64 lj1, .int .u64 lj2, .int .u64 lj3, .string lbc, .int .u64 lnu, .int .i64 lcv, .int .u64 lcb, .int .u64 lc0, .int .u64 lc1, .int .u64 lc2, .int .u64 lc3, .int .u64 lsl] 67 (0, 0))) := by rw [hW9]; exact Fg.other HL8.out HNB.out
        rw [← hW9]
        clear hW9
        clear u3 k12 f12
        have k11 : W9.cell? ⟨w.heap.size + 3, 11, none⟩ = some (.int .u64 nb) := cell_at HF9.out.h7 11
        have k5 : W9.cell? ⟨w.heap.size + 3, 5, none⟩ = some (.int .u64 jb) := cell_at HF9.out.h7 5
        have f5 : W9.frozen? ⟨w.heap.size + 3, 5, none⟩ = false := free_at HF9.out.h7 5
        go_upto_region 11 with fail
        obtain ⟨W10, hW10⟩ : ∃ W, W = W9.setCell ⟨w.heap.size + 3, 5, none⟩ (.int .u64 nb) := ⟨_, rfl⟩
        have HF10 : Hid (Fg w W10 x oc ⟨xk, xf, xv, ⟨bv, ⟨jv, nb, j0, j1, j2, j3⟩, bcm⟩, nb, ⟨lv, nb, c0, c1, c2, c3⟩, xs⟩) := by rw [hW10]; exact HF9.out.set 5 (.int .u64 nb) (by kernel_rfl) (HF9.out.ok.just (c := ⟨jv, nb, j0, j1, j2, j3⟩) ⟨HF9.out.ok.ok.b.j.v0, HF9.out.ok.ok.b.j.v1, hnl⟩)
        have HL10 : Hid (W10.heap[bl]? = some (.cells #[.int .i64 l0, .int .i64 lk, .int .i64 lf, .int .i64 lv, .int .i64 lbv, .int .i64 ljv, .int .u64 ljb, .int .u64 lj0, .int .u64 lj1, .int .u64 lj2, .int .u64 lj3, .string lbc, .int .u64 lnu, .int .i64 lcv, .int .u64 lcb, .int .u64 lc0, .int .u64 lc1, .int .u64 lc2, .int .u64 lc3, .int .u64 lsl] 67 (0, 0))) := by rw [hW10]; exact Fg.other HL9.out HNB.out
        rw [← hW10]
        clear hW10
        clear k11 k5 f5
        have u3 : W10.cell? ⟨bl, 3, none⟩ = some (.int .i64 lv) := cell_at HL10.out 3
        have k4 : W10.cell? ⟨w.heap.size + 3, 4, none⟩ = some (.int .i64 jv) := cell_at HF10.out.h7 4
        have f4 : W10.frozen? ⟨w.heap.size + 3, 4, none⟩ = false := free_at HF10.out.h7 4
        have HF11 : Hid (Fg w (W10.setCell ⟨w.heap.size + 3, 4, none⟩ (.int .i64 lv)) x oc ⟨xk, xf, xv, ⟨bv, ⟨lv, nb, j0, j1, j2, j3⟩, bcm⟩, nb, ⟨lv, nb, c0, c1, c2, c3⟩, xs⟩) := HF10.out.set 4 (.int .i64 lv) (by kernel_rfl) (HF10.out.ok.just (c := ⟨lv, nb, j0, j1, j2, j3⟩) ⟨HLO.out.2.1, HLO.out.2.2, hnl⟩)
        go_wp2
        go_meet
        case rel => exact ⟨_, HF11.out⟩
  case rest =>
  obtain ⟨X2, HF2⟩ := hcut
  clear HF1 hbl LP HRO HLT
  refine (?kk : ∀ (a : Act) (w : World), Code.wp Tryz.prog ?kc ?kq a w → _) _ _ ?goal
  case kk => assumption
  refine lfg_end HF2 HO3 HHI HHK ?_
  intro g9 g74 g75 g76 g77 g78 g79 g80 g81 g82 g83 g84 g85 g86 g87 g88 g89 g90 g91 g92 g93 g94 g95 g96 g97 g98 g99 g100 g101 g102 g103 g104 g105 g106 g107 g108 g109 g110 g111 g112 g113 g114 g115 g116 g117 g118 g119 g120 g121 g122 g123 g124 g125 g126 g127 g128 g129 g130 g131 g132 g133 w9 hh
  obtain ⟨X9, ok9, bl9, rg9⟩ := hh
  refine bodyPost_ret (v := .agg X9.cells.toArray) (results_cellZ Tryz.results22 rfl rg9 Tryz.underlying43 rfl (by kernel_rfl)) rfl ⟨X9, ok9, rfl, bl9⟩
end Go.Proofs.YtkehpnobidendaaGreatDoor

namespace Go.Proofs.YtkehpnobidendaaGreatDoor
open Go

/-- Operation j waits for i, over at most n edges. -/
def needsB (md : Region.Mode) (ops : Array Oper) (i : Nat) : Nat → Nat → Bool
  | 0, j => j == i
  | n + 1, j => j == i || (match ops[j]? with
    | none => false
    | some o => o.after.toList.any fun e => Region.binds md e && needsB md ops i n e.on)

/-- What is listed has all that it waits for listed. -/
def closedB (md : Region.Mode) (ops : Array Oper) (listed : Array Bool) : Bool :=
  (List.range ops.size).all fun j => !(listed.getD j false) || (match ops[j]? with
    | none => true
    | some o => o.after.toList.all fun e => !(Region.binds md e) || listed.getD e.on false)

section
variable {P : Program} {ops : Array Oper} {Q : Exit → Act → World → Prop} {md : Region.Mode} {S : World → Prop} {k : Nat}

def Closed (md : Region.Mode) (ops : Array Oper) (listed : Array Bool) : Prop :=
  ∀ j o, ops[j]? = some o → listed.getD j false = true → ∀ e ∈ o.after, Region.binds md e = true → listed.getD e.on false = true

theorem closed_of {listed : Array Bool} (h : closedB md ops listed = true) : Closed md ops listed := by
  intro j o ho hl e he hb
  have hj : j < ops.size := by
    rcases Nat.lt_or_ge j ops.size with h' | h'
    · exact h'
    · rw [Array.getElem?_eq_none h'] at ho; cases ho
  have h1 := (List.all_eq_true.1 h) j (List.mem_range.2 hj)
  simp only [ho, hl, Bool.not_true, Bool.false_or] at h1
  have h2 := (List.all_eq_true.1 h1) e (Array.mem_toList_iff.2 he)
  simpa [hb] using h2

theorem Closed.step {listed : Array Bool} (h : Closed md ops listed) {j : Nat} (hj : j ∈ Region.ready md ops listed) :
    Closed md ops (listed.setIfInBounds j true) := by
  intro m o ho hl e he hb
  obtain ⟨_, o', ho', hall⟩ := mem_ready.1 hj
  by_cases hm : j = m
  · subst hm
    rw [ho] at ho'; cases ho'
    exact getD_set_true (hall e he hb)
  · rw [getD_set_ne false hm] at hl
    exact getD_set_true (h m o ho hl e he hb)

/-- While i is not listed, whoever needs it is not listed either. -/
theorem Closed.not_listed {listed : Array Bool} (h : Closed md ops listed) {i : Nat} (hi : listed.getD i false = false) :
    ∀ n j, needsB md ops i n j = true → listed.getD j false = false := by
  intro n
  induction n with
  | zero => intro j hj; have : j = i := by simpa [needsB] using hj
            rw [this]; exact hi
  | succ n ih =>
    intro j hj
    simp only [needsB, Bool.or_eq_true] at hj
    rcases hj with hj | hj
    · have : j = i := by simpa using hj
      rw [this]; exact hi
    · cases ho : ops[j]? with
      | none => simp [ho] at hj
      | some o =>
        simp only [ho, List.any_eq_true, Bool.and_eq_true] at hj
        obtain ⟨e, he, hb, hn⟩ := hj
        cases hl : listed.getD j false with
        | false => rfl
        | true => have := h j o ho hl e (Array.mem_toList_iff.1 he) hb; rw [ih e.on hn] at this; cases this

/-- So k cannot come up while i, for which it waits, may. -/
theorem Closed.not_ready {listed : Array Bool} (h : Closed md ops listed) {i n : Nat} (hk : k ≠ i) (hn : needsB md ops i n k = true)
    (hr : i ∈ Region.ready md ops listed) : k ∉ Region.ready md ops listed := by
  intro hkr
  have hi : listed.getD i false = false := by
    have hi0 := (mem_ready.1 hr).1
    rcases Nat.lt_or_ge i listed.size with h' | h'
    · simp [h'] at hi0 ⊢; exact hi0
    · simp [Array.getElem?_eq_none h']
  obtain ⟨_, o, ho, hall⟩ := mem_ready.1 hkr
  cases n with
  | zero => exact hk (by simpa [needsB] using hn)
  | succ n =>
    simp only [needsB, Bool.or_eq_true, ho, List.any_eq_true, Bool.and_eq_true] at hn
    rcases hn with hn | ⟨e, he, hb, hn⟩
    · exact hk (by simpa using hn)
    · have := hall e (Array.mem_toList_iff.1 he) hb
      rw [h.not_listed hi n e.on hn] at this
      cases this

/-- Whatever order is picked from here on, and S holds behind every operation that is carried out ahead of k. -/
def wpAnyL (P : Program) (md : Region.Mode) (ops : Array Oper) (Q : Exit → Act → World → Prop) (S : World → Prop) (k : Nat) : Nat → Array Bool → Act → World → Prop
  | 0, listed, a, w => Region.ready md ops listed = [] ∧ Q .normal a w
  | fuel + 1, listed, a, w =>
    (Region.ready md ops listed = [] → Q .normal a w) ∧
    ∀ i ∈ Region.ready md ops listed, wpOp P ops Q i (fun a' w' => ((listed.setIfInBounds i true).getD k false = false → S w') ∧ wpAnyL P md ops Q S k fuel (listed.setIfInBounds i true) a' w') a w

theorem wpAny_of_last : ∀ (fuel : Nat) (listed : Array Bool) (a : Act) (w : World), wpAnyL P md ops Q S k fuel listed a w → wpAny P md ops Q fuel listed a w
  | 0, _, _, _, h => h
  | fuel + 1, _, _, _, h => ⟨h.1, fun i hi => wpOp_mono (fun a' w' h' => wpAny_of_last fuel _ a' w' h'.2) (h.2 i hi)⟩

/-- What stays true of operation i, which may come up and yields v, as long as it has not come up. -/
structure Ahead (P : Program) (md : Region.Mode) (ops : Array Oper) (S : World → Prop) (i : Nat) (oi : Oper) (v : Value) (listed : Array Bool) (a : Act) : Prop where
  closed : Closed md ops listed
  mayCome : i ∈ Region.ready md ops listed
  alone : ∀ j oj, ops[j]? = some oj → j ≠ i → listed.getD j true = false → (∀ e ∈ oj.after, Region.binds md e = true → e.on ≠ i) → oi.apart ops oj = true
  gives : YieldsIf P ops S oi v a

/-- It is not listed, said with the other default. -/
theorem Ahead.unlisted {i : Nat} {oi : Oper} {v : Value} {listed : Array Bool} {a : Act} (h : Ahead P md ops S i oi v listed a) : listed.getD i false = false := by
  have hu := (mem_ready.1 h.mayCome).1
  rcases Nat.lt_or_ge i listed.size with h' | h'
  · simp [h'] at hu ⊢; exact hu
  · simp [Array.getElem?_eq_none h']

/-- Another one that may come up now is apart from it: it cannot wait for it. -/
theorem Ahead.beside {i : Nat} {oi : Oper} {v : Value} {listed : Array Bool} {a : Act} (h : Ahead P md ops S i oi v listed a) {j : Nat} (hj : j ∈ Region.ready md ops listed) (hji : j ≠ i) :
    ∃ oj, ops[j]? = some oj ∧ oi.apart ops oj = true := by
  obtain ⟨hun, oj, hoj, hall⟩ := mem_ready.1 hj
  refine ⟨oj, hoj, h.alone j oj hoj hji hun fun e he hb heq => ?_⟩
  have hl := hall e he hb
  rw [heq, h.unlisted] at hl
  exact Bool.false_ne_true hl

/-- Behind that other one all this stands, if i still yields v. -/
theorem Ahead.later {i : Nat} {oi : Oper} {v : Value} {listed : Array Bool} {a a' : Act} (h : Ahead P md ops S i oi v listed a) {j : Nat} (hj : j ∈ Region.ready md ops listed) (hji : j ≠ i)
    (hy : YieldsIf P ops S oi v a') : Ahead P md ops S i oi v (listed.setIfInBounds j true) a' where
  closed := h.closed.step hj
  mayCome := ready_mono h.mayCome (Ne.symm hji)
  alone m om hm hmi hu hno := by
    by_cases hjm : j = m
    · exact h.alone m om hm hmi (hjm ▸ (mem_ready.1 hj).1) hno
    · exact h.alone m om hm hmi (by rw [getD_set_ne true hjm] at hu; exact hu) hno
  gives := hy

/-- **What k waits for may be taken first.** -/
theorem wpAnyL_first {i n : Nat} {oi : Oper} {v : Value} (hi : ops[i]? = some oi) (hsel : ∀ (j : Nat) (o : Oper) cs b, ops[j]? = some o → o.op ≠ .select cs b)
    (hQ : ∀ c a w, Q (.panic c) (a.put oi.dst v) w → Q (.panic c) a w) (hki : k ≠ i) (hn : needsB md ops i n k = true) (fuel : Nat) :
    ∀ (listed : Array Bool) (a : Act) (w : World), Ahead P md ops S i oi v listed a → S w →
      wpAnyL P md ops Q S k fuel (listed.setIfInBounds i true) (a.put oi.dst v) w → wpAnyL P md ops Q S k (fuel + 1) listed a w := by
  induction fuel with
  | zero =>
    intro listed a w hA hS H
    have hmine : ∀ j ∈ Region.ready md ops listed, j = i := fun j hj => Classical.byContradiction fun hne => by
      have hmore := ready_mono hj hne
      rw [H.1] at hmore
      exact List.not_mem_nil hmore
    exact ⟨fun hnone => absurd (hnone ▸ hA.mayCome) List.not_mem_nil, fun j hj => by
      obtain rfl := hmine j hj
      exact hA.gives.wpOp hi hS ⟨fun _ => hS, H⟩⟩
  | succ fuel ih =>
    intro listed a w hA hS H
    refine ⟨fun hnone => absurd (hnone ▸ hA.mayCome) List.not_mem_nil, fun j hj => ?_⟩
    rcases Classical.em (j = i) with rfl | hji
    · exact hA.gives.wpOp hi hS ⟨fun _ => hS, H⟩
    · obtain ⟨oj, hoj, hap⟩ := hA.beside hj hji
      have hkun : ((listed.setIfInBounds i true).setIfInBounds j true).getD k false = false := by
        have hjk : j ≠ k := fun e => hA.closed.not_ready hki hn hA.mayCome (e ▸ hj)
        rw [getD_set_ne false hjk, getD_set_ne false (Ne.symm hki)]
        exact hA.closed.not_listed hA.unlisted n k hn
      have hthere := wpOp_putIf hoj hap (fun cs b => hsel i oi cs b hi) (fun cs b => hsel j oj cs b hoj) hQ hA.gives (H.2 j (ready_mono hj hji))
      exact wpOp_mono (fun a' w' ⟨hy, hs, hrest⟩ => ⟨fun _ => hs hkun, ih _ a' w' (hA.later hj hji hy) (hs hkun) (by rw [Array.setIfInBounds_comm _ _ hji]; exact hrest)⟩) hthere

/-- Number i first: its operation is the head of what is left of the list. -/
theorem wpAnyL_take {l rest : List Oper} (i : Nat) {oi : Oper} (v : Value) {fuel : Nat} {listed : Array Bool} {a : Act} {w : World} (hi : l.drop i = oi :: rest)
    (hs : Region.noSelect l.toArray = true) (hf : Region.free md l.toArray listed i = true) (hr : (Region.ready md l.toArray listed).contains i = true)
    (hc : closedB md l.toArray listed = true) (hn : (k != i && needsB md l.toArray i l.length k) = true)
    (hQ : ∀ c a w, Q (.panic c) (a.put oi.dst v) w → Q (.panic c) a w) (hy : YieldsIf P l.toArray S oi v a) (hS : S w)
    (h : wpAnyL P md l.toArray Q S k fuel (listed.setIfInBounds i true) (a.put oi.dst v) w) : wpAnyL P md l.toArray Q S k (fuel + 1) listed a w := by
  have hi' : l.toArray[i]? = some oi := by
    have : (l.drop i)[0]? = some oi := by rw [hi]; rfl
    simpa using this
  rw [Bool.and_eq_true] at hn
  exact wpAnyL_first hi' (Region.noSelect_spec hs) hQ (by simpa using hn.1) hn.2 fuel listed a w ⟨closed_of hc, by simpa using hr, Region.free_spec hi' hf, hy⟩ hS h

/-- One alone may come up, k not yet: it comes up, and S is shown behind it. -/
theorem wpAnyL_one {l rest : List Oper} (i : Nat) {oi : Oper} {fuel : Nat} {listed : Array Bool} {a : Act} {w : World} (hi : l.drop i = oi :: rest)
    (hr : Region.ready md l.toArray listed = [i])
    (h : ∀ K' : Act → World → Prop, Shut (∀ a w, S w → wpAnyL P md l.toArray Q S k fuel (listed.setIfInBounds i true) a w → K' a w) → if Region.wanted oi (yielded l.toArray a.tmps) = true then Oper.wp P oi a w K' Q else K' (a.put oi.dst undef) w) :
    wpAnyL P md l.toArray Q S k (fuel + 1) listed a w := by
  have hi' : l.toArray[i]? = some oi := by
    have : (l.drop i)[0]? = some oi := by rw [hi]; rfl
    simpa using this
  refine ⟨fun h0 => (by rw [hr] at h0; cases h0), fun j hj => ?_⟩
  rw [hr] at hj
  obtain rfl : j = i := by simpa using hj
  exact wpOp_step hi' (fun K' hK => h K' (fun a w hS hW => hK a w ⟨fun _ => hS, hW⟩))

/-- One alone may come up, k itself or k is past: nothing is asked behind it. -/
theorem wpAnyL_past {l rest : List Oper} (i : Nat) {oi : Oper} {fuel : Nat} {listed : Array Bool} {a : Act} {w : World} (hi : l.drop i = oi :: rest)
    (hr : Region.ready md l.toArray listed = [i]) (hk : (listed.setIfInBounds i true).getD k false = true)
    (h : ∀ K' : Act → World → Prop, Shut (∀ a w, wpAnyL P md l.toArray Q S k fuel (listed.setIfInBounds i true) a w → K' a w) → if Region.wanted oi (yielded l.toArray a.tmps) = true then Oper.wp P oi a w K' Q else K' (a.put oi.dst undef) w) :
    wpAnyL P md l.toArray Q S k (fuel + 1) listed a w := by
  have hi' : l.toArray[i]? = some oi := by
    have : (l.drop i)[0]? = some oi := by rw [hi]; rfl
    simpa using this
  refine ⟨fun h0 => (by rw [hr] at h0; cases h0), fun j hj => ?_⟩
  rw [hr] at hj
  obtain rfl : j = i := by simpa using hj
  exact wpOp_step hi' (fun K' hK => h K' (fun a w hW => hK a w ⟨fun hf => absurd (hk.symm.trans hf) (by decide), hW⟩))

theorem wpAnyL_done {listed : Array Bool} {a : Act} {w : World} (hr : Region.ready md ops listed = []) (h : Q .normal a w) :
    ∀ fuel, wpAnyL P md ops Q S k fuel listed a w
  | 0 => ⟨hr, h⟩
  | _ + 1 => ⟨fun _ => h, by rw [hr]; simp⟩

theorem wp_region_last (S : World → Prop) (k : Nat) {l : List Oper} {id : Nat} {a : Act} {w : World} (hm : P.follows .mixedOrders = true)
    (h : wpAnyL P .any l.toArray Q S k l.length (List.replicate l.length false).toArray a w.drew) : (Code.region id l.toArray true).wp P Q a w :=
  wp_region_any hm (wpAny_of_last (S := S) (k := k) _ _ _ _ (by simpa using h))
end
end Go.Proofs.YtkehpnobidendaaGreatDoor
