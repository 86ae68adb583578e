/- The program's member: propose. The program's member: Tick. -/
import Derived.Test.YtkehpnobidendaaGreatDoorM23
import Derived.Deep.RegionWith
namespace Go.Proofs.YtkehpnobidendaaGreatDoor
open Go.RowKit Go.Maps Go.Conc

theorem ld_blk (a : Addr) : loadVar 41 a = rowVar 41 a := rfl
theorem put_blk (a : Addr) (v : Value) : storeVar 41 a v = rowPut 41 a v := rfl
attribute [local go_sem ↓] ld_blk put_blk
theorem blk_size8 : (Tryz.prog.info? 41).map (·.size) = some 8 := by kernel_rfl
theorem ends_ltr (m : Mem) (h : m.may = true) : m.ends = (m.noted.knows m.next, [m.propLtr m.next]) := by
  rw [ends_yes h]; rfl
/-- One of two members. -/
structure PQ (p : Nat) (S : Nat → Prop) (m1 m2 : Mem) (w' : World) : Prop where
  is : PMem w' p S m1 ∨ PMem w' p S m2
theorem PQ.alloc {p : Nat} {S : Nat → Prop} {m1 m2 : Mem} {w' : World} (h : PQ p S m1 m2 w') (o : Obj) : PQ p S m1 m2 (w'.alloc o) := ⟨h.is.imp (fun h => h.alloc o) (fun h => h.alloc o)⟩
theorem PQ.drew {p : Nat} {S : Nat → Prop} {m1 m2 : Mem} {w' : World} (h : PQ p S m1 m2 w') : PQ p S m1 m2 w'.drew := ⟨h.is.imp (fun h => h.heap rfl) (fun h => h.heap rfl)⟩
theorem PQ.put {p : Nat} {S : Nat → Prop} {m1 m2 : Mem} {w' : World} (h : PQ p S m1 m2 w') {B : Nat} (hB : ¬ S B) (h0 : B ≠ 0) (vs : List Value) : PQ p S m1 m2 (w'.setCells B 0 vs) :=
  have hf := Fr.setCells (S := fun k => k = B) (B := B) rfl vs 0 w'
  ⟨h.is.imp (fun h => h.fr hf (fun _ hk e => hB (e ▸ hk)) (fun e => h0 e.symm)) (fun h => h.fr hf (fun _ hk e => hB (e ▸ hk)) (fun e => h0 e.symm))⟩
/-- Eight cells that lie whole. -/
theorem there8 {w : World} {B : Nat} {C : Array Value} {T : TypeId} (h : w.heap[B]? = some (.cells C T (0, 0))) (hC : C.size = 8) : w.there B 0 8 := fun j hj => by
  refine ⟨?_, free_at h _⟩
  rw [cell_at h]
  simp; omega
theorem put8 {w : World} {B : Nat} {C : Array Value} {T : TypeId} (h : w.heap[B]? = some (.cells C T (0, 0))) (hC : C.size = 8) (b : Blk) : (rowPut 41 ⟨B, 0, none⟩ (.agg b.cells.toArray)).run Tryz.prog w = .ok () (w.setCells B 0 b.cells) :=
  rowPut_mid w B 0 41 b.cells.toArray (there8 h hC) blk_size8 (by simp [Blk.cells, Value.oneCell'])
/-- Where the block that is proposed lies. -/
structure PB (w : World) (p c : Nat) (S : Nat → Prop) (m : Mem) (ls : List Ltr) (W : World) (B : Nat) (b : Blk) : Prop where
  pm : PMem W p S m
  ns : ¬ S B
  ob : OutB W c ls
  fr : Fr S w W
  ld : ∀ W', Fr (fun k => k ≠ B) W W' → (rowVar 41 ⟨B, 0, none⟩).run Tryz.prog W' = .ok (.agg b.cells.toArray) W'
theorem PB.mk8 {w W : World} {p c B : Nat} {S : Nat → Prop} {m : Mem} {ls : List Ltr} {C : Array Value} {T : TypeId} (h : W.heap[B]? = some (.cells C T (0, 0))) (hC : C.size = 8) (b : Blk) (pm : PMem W p S m) (ob : OutB W c ls) (fr : Fr S w W) (hB : ¬ S B) (h0 : B ≠ 0) (hw : w.heap.size ≤ B) : PB w p c S m ls (W.setCells B 0 b.cells) B b := by
  have hf := Fr.setCells (S := fun k => k = B) (B := B) rfl b.cells 0 W
  have hcb : c ≠ B := fun e => by obtain ⟨s, r, hc⟩ := ob.ex; rw [e, h] at hc; cases hc
  refine ⟨pm.fr hf (fun _ hk e => hB (e ▸ hk)) (fun e => h0 e.symm), hB, ob.fr hf hcb, fr.trans hf (fun i hi => .inr (by rw [hi]; exact hw)), fun W' hf' => ?_⟩
  have hr := World.rangeAt_setCells_same W B 0 b.cells (there8 h hC)
  have hlt : B < (W.setCells B 0 b.cells).heap.size := Nat.lt_of_lt_of_le (lt_at h) hf.size
  exact rowVar_mid W' B 0 41 b.cells _ (fun j v hv => by rw [World.cell?_of_block (hf'.block B hlt (fun h => h rfl))]; exact hr j v hv) Tryz.underlying41 rfl blk_size8
set_option maxHeartbeats 4000000 in
set_option maxRecDepth 100000 in
theorem ppropose (w : World) (p c : Nat) (S : Nat → Prop) (m : Mem) (h : PMem w p S m) (ls : List Ltr) (hls : ls.length ≤ 1) (hc : OutB w c ls) (hcs : ¬ S c) (hc0 : c ≠ 0) (hi : Inv m) (hE : (rl (m.entered m.view)).cnt = (m.entered m.view).length) (hle : m.enters.length + m.proposed.length ≤ 1700000000000) (hbl : m.blocks.length ≤ 1700000000000) :
    Calls Tryz.prog 39 #[.pointer (some ⟨p, 0, none⟩), .chan (some c)] w fun e w' => e = .returned (.tuple #[]) ∧ PMem w' p S m.ends.1 ∧ OutB w' c (ls ++ m.ends.2) ∧ Fr (fun k => S k ∨ k = c) w w' := by
  have v0 := hi.v0
  have v1 := hi.v1
  have HP : Hid (PMem w p S m) := h
  have HC : Hid (OutB w c ls) := hc
  have HM : Hid (∀ W, PMem W p S m → Calls Tryz.prog 59 #[.pointer (some ⟨p, 0, none⟩)] W fun e w' => e = .returned (.bool m.may) ∧ Below W.heap.size W w') := fun W hW => pmay W p S m hW v0 v1 hE
  have HI : Hid (Inv m) := hi
  have HCS : Hid (¬ S c) := hcs
  clear h hc hE
  cases hmay : m.may
  · have HT : Hid (m.ends = (m, [])) := ends_no hmay
    refine calls_of_wn Tryz.func39 rfl ?_
    simp only [Tryz.ntmps39, List.size_toArray, List.length_cons, List.length_nil, Nat.reduceAdd, Nat.reduceSub, Array.replicate_succ, Array.replicate_zero, List.push_toArray, List.append_toArray, List.nil_append, List.cons_append]
    refine WN.of_wp ?_
    go_wp2_with (go_at_call 59; refine (HM.out w HP.out).mono ?_; rintro e w1 ⟨rfl, hb1⟩; rw [hmay])
    refine bodyPost_ret (results_none rfl _ _ _) rfl ?_
    rw [HT.out]
    refine ⟨rfl, HP.out.below hb1, ?_, (Fr.of_below hb1)⟩
    rw [List.append_nil]
    exact HC.out.below hb1
  · have HT : Hid (m.ends = (m.noted.knows m.next, [m.propLtr m.next])) := ends_ltr m hmay
    refine calls_of_wn Tryz.func39 rfl ?_
    simp only [Tryz.ntmps39, List.size_toArray, List.length_cons, List.length_nil, Nat.reduceAdd, Nat.reduceSub, Array.replicate_succ, Array.replicate_zero, List.push_toArray, List.append_toArray, List.nil_append, List.cons_append]
    refine WN.seq_wp (fun K hK => ?_)
    go_wp2_with (go_at_call 59; refine (HM.out w HP.out).mono ?_; rintro e w1 ⟨rfl, hb1⟩; rw [hmay])
    have HP1 : Hid (PMem w1 p S m) := HP.out.below hb1
    have HC1 : Hid (OutB w1 c ls) := HC.out.below hb1
    have HF1 : Hid (Fr S w w1) := Fr.of_below hb1
    clear HP HC hb1 HM
    refine WN.seq_wp (fun K hK => ?_)
    go_wp2_with (go_at_call 60; refine (pnote w1 p S m HP1.out v0 v1 hle).mono ?_; rintro e w2 ⟨rfl, hm2, hf2⟩)
    have HP2 : Hid (PMem w2 p S { m with proposed := m.proposed ++ [m.view] }) := hm2
    have HC2 : Hid (OutB w2 c ls) := HC1.out.fr hf2 hcs
    have HF2 : Hid (Fr S w w2) := HF1.out.trans hf2 (fun _ h => .inl h)
    clear HP1 HC1 HF1 hm2 hf2
    have hs2 := HP2.out.see
    have b2 := hs2.c2
    have b5 := hs2.c5
    have b6 := hs2.c6
    have b7 := hs2.c7
    have b8 := hs2.c8
    have b9 := hs2.c9
    have b10 := hs2.c10
    have lp := hs2.lt
    dsimp only at b2 b5 b6 b7 b8 b9 b10
    clear hs2
    have HTC : Hid (∀ W, PMem W p S { m with proposed := m.proposed ++ [m.view] } → Calls Tryz.prog 61 #[.pointer (some ⟨p, 0, none⟩)] W fun e w' => e = .returned (.string (m.queue.headD ⟨#[]⟩)) ∧ PMem w' p S m.noted ∧ Fr S W w') := fun W hW => ptakeCommand W p S { m with proposed := m.proposed ++ [m.view] } hW hi.ql
    have hqz : (m.queue.headD ⟨#[]⟩).size ≤ 16 := by
      cases hq : m.queue with
      | nil => exact Nat.zero_le _
      | cons a r => exact hi.qc a (by rw [hq]; simp)
    have hnx : m.next = ⟨m.view, m.high, m.queue.headD ⟨#[]⟩⟩ := rfl
    generalize m.queue.headD ⟨#[]⟩ = qc at HTC hnx hqz
    have HNX : Hid (m.next = ⟨m.view, m.high, qc⟩) := hnx
    clear hnx
    have HS : Hid (∀ w', PQ p S { m with proposed := m.proposed ++ [m.view] } m.noted w' → PQ p S { m with proposed := m.proposed ++ [m.view] } m.noted w' ∧ w'.cell? ⟨p, 2, none⟩ = some (.int .i64 m.view) ∧ w'.cell? ⟨p, 5, none⟩ = some (.int .i64 m.high.view) ∧ w'.cell? ⟨p, 6, none⟩ = some (.int .u64 m.high.block) ∧ w'.cell? ⟨p, 7, none⟩ = some (.int .u64 m.high.s0) ∧ w'.cell? ⟨p, 8, none⟩ = some (.int .u64 m.high.s1) ∧ w'.cell? ⟨p, 9, none⟩ = some (.int .u64 m.high.s2) ∧ w'.cell? ⟨p, 10, none⟩ = some (.int .u64 m.high.s3)) := fun w' hq => by
      rcases hq.is with h | h
      · have hs := h.see
        exact ⟨hq, hs.c2, hs.c5, hs.c6, hs.c7, hs.c8, hs.c9, hs.c10⟩
      · have hs := h.see
        exact ⟨hq, hs.c2, hs.c5, hs.c6, hs.c7, hs.c8, hs.c9, hs.c10⟩
    have HNS : Hid (¬ S w2.heap.size) := fun h => by have := HP2.out.lt _ h; omega
    have HPB1 : Hid (∀ w3, PMem w3 p S m.noted → Fr S w2.drew w3 → PB w p c S m.noted ls ((w3.alloc (.cells #[.int .i64 0, .int .i64 0, .int .u64 0, .int .u64 0, .int .u64 0, .int .u64 0, .int .u64 0, .string ⟨#[]⟩] 41)).setCells w3.heap.size 0 [.int .i64 m.view, .int .i64 m.high.view, .int .u64 m.high.block, .int .u64 m.high.s0, .int .u64 m.high.s1, .int .u64 m.high.s2, .int .u64 m.high.s3, .string qc]) w3.heap.size ⟨m.view, m.high, qc⟩) := fun w3 hm3 hf3 =>
      PB.mk8 (heap_alloc_new w3 _) rfl ⟨m.view, m.high, qc⟩ (hm3.alloc _) (((HC2.out.same (w' := w2.drew) rfl).fr hf3 hcs).below (below_alloc _ _)) (((HF2.out.trans (Fr.drew S w2) (fun _ h => .inl h)).trans hf3 (fun _ h => .inl h)).trans (Fr.alloc S w3 _) (fun _ h => .inl h)) (fun h => by have := hm3.lt _ h; omega) (by have := hm3.tab.pos; omega) (by have := HF2.out.size; have h4 : w2.heap.size ≤ w3.heap.size := hf3.size; omega)
    have HPB2 : Hid (∀ w3, PMem w3 p S m.noted → Fr S (w2.alloc (.cells #[.int .i64 0, .int .i64 0, .int .u64 0, .int .u64 0, .int .u64 0, .int .u64 0, .int .u64 0, .string ⟨#[]⟩] 41)).drew w3 → PB w p c S m.noted ls (w3.setCells w2.heap.size 0 [.int .i64 m.view, .int .i64 m.high.view, .int .u64 m.high.block, .int .u64 m.high.s0, .int .u64 m.high.s1, .int .u64 m.high.s2, .int .u64 m.high.s3, .string qc]) w2.heap.size ⟨m.view, m.high, qc⟩) := fun w3 hm3 hf3 =>
      PB.mk8 ((hf3.block w2.heap.size (by simp) HNS.out).trans (heap_alloc_new w2 _)) rfl ⟨m.view, m.high, qc⟩ hm3 (((HC2.out.below (below_alloc _ _)).same (w' := (w2.alloc (.cells #[.int .i64 0, .int .i64 0, .int .u64 0, .int .u64 0, .int .u64 0, .int .u64 0, .int .u64 0, .string ⟨#[]⟩] 41)).drew) rfl).fr hf3 hcs) (((HF2.out.trans (Fr.alloc S w2 _) (fun _ h => .inl h)).trans (Fr.drew S _) (fun _ h => .inl h)).trans hf3 (fun _ h => .inl h)) HNS.out (by have := HP2.out.tab.pos; omega) (by have := HF2.out.size; omega)
    have HTCW : Hid (∀ W, (W = w2.drew ∨ W = (w2.alloc (.cells #[.int .i64 0, .int .i64 0, .int .u64 0, .int .u64 0, .int .u64 0, .int .u64 0, .int .u64 0, .string ⟨#[]⟩] 41)).drew) → Calls Tryz.prog 61 #[.pointer (some ⟨p, 0, none⟩)] W fun e w' => e = .returned (.string qc) ∧ PMem w' p S m.noted ∧ Hid (W = w2.drew → (¬ S w'.heap.size ∧ w'.heap.size ≠ 0 ∧ (rowPut 41 ⟨w'.heap.size, 0, none⟩ (.agg #[.int .i64 m.view, .int .i64 m.high.view, .int .u64 m.high.block, .int .u64 m.high.s0, .int .u64 m.high.s1, .int .u64 m.high.s2, .int .u64 m.high.s3, .string qc])).run Tryz.prog (w'.alloc (.cells #[.int .i64 0, .int .i64 0, .int .u64 0, .int .u64 0, .int .u64 0, .int .u64 0, .int .u64 0, .string ⟨#[]⟩] 41)) = .ok () ((w'.alloc (.cells #[.int .i64 0, .int .i64 0, .int .u64 0, .int .u64 0, .int .u64 0, .int .u64 0, .int .u64 0, .string ⟨#[]⟩] 41)).setCells w'.heap.size 0 [.int .i64 m.view, .int .i64 m.high.view, .int .u64 m.high.block, .int .u64 m.high.s0, .int .u64 m.high.s1, .int .u64 m.high.s2, .int .u64 m.high.s3, .string qc]) ∧ Hid (PB w p c S m.noted ls ((w'.alloc (.cells #[.int .i64 0, .int .i64 0, .int .u64 0, .int .u64 0, .int .u64 0, .int .u64 0, .int .u64 0, .string ⟨#[]⟩] 41)).setCells w'.heap.size 0 [.int .i64 m.view, .int .i64 m.high.view, .int .u64 m.high.block, .int .u64 m.high.s0, .int .u64 m.high.s1, .int .u64 m.high.s2, .int .u64 m.high.s3, .string qc]) w'.heap.size ⟨m.view, m.high, qc⟩))) ∧ Hid (W = (w2.alloc (.cells #[.int .i64 0, .int .i64 0, .int .u64 0, .int .u64 0, .int .u64 0, .int .u64 0, .int .u64 0, .string ⟨#[]⟩] 41)).drew → (¬ S w2.heap.size ∧ w2.heap.size ≠ 0 ∧ (rowPut 41 ⟨w2.heap.size, 0, none⟩ (.agg #[.int .i64 m.view, .int .i64 m.high.view, .int .u64 m.high.block, .int .u64 m.high.s0, .int .u64 m.high.s1, .int .u64 m.high.s2, .int .u64 m.high.s3, .string qc])).run Tryz.prog w' = .ok () (w'.setCells w2.heap.size 0 [.int .i64 m.view, .int .i64 m.high.view, .int .u64 m.high.block, .int .u64 m.high.s0, .int .u64 m.high.s1, .int .u64 m.high.s2, .int .u64 m.high.s3, .string qc]) ∧ Hid (PB w p c S m.noted ls (w'.setCells w2.heap.size 0 [.int .i64 m.view, .int .i64 m.high.view, .int .u64 m.high.block, .int .u64 m.high.s0, .int .u64 m.high.s1, .int .u64 m.high.s2, .int .u64 m.high.s3, .string qc]) w2.heap.size ⟨m.view, m.high, qc⟩)))) := fun W hW => by
      have hPW : PMem W p S { m with proposed := m.proposed ++ [m.view] } := by
        rcases hW with rfl | rfl
        · exact HP2.out.heap rfl
        · exact (HP2.out.alloc _).heap rfl
      refine (HTC.out W hPW).mono (fun e w3 ⟨he, hm3, hf3⟩ => ⟨he, hm3, fun hE => ?_, fun hE => ?_⟩)
      · rw [hE] at hf3
        exact ⟨fun h => by have := hm3.lt _ h; omega, by have := hm3.tab.pos; omega, put8 (heap_alloc_new w3 _) rfl ⟨m.view, m.high, qc⟩, HPB1.out w3 hm3 hf3⟩
      · rw [hE] at hf3
        exact ⟨HNS.out, by have := HP2.out.tab.pos; omega, put8 ((hf3.block w2.heap.size (by simp) HNS.out).trans (heap_alloc_new w2 _)) rfl ⟨m.view, m.high, qc⟩, HPB2.out w3 hm3 hf3⟩
    clear HPB1 HPB2 HTC
    have HOK : Hid (Blk.Ok ⟨m.view, m.high, qc⟩) := ⟨by show -9223372036854775808 ≤ m.view; omega, by show m.view ≤ 9223372036854775807; omega, hi.hi.ok, by show qc.size ≤ 140737488351232; omega⟩
    have HBL : Hid (m.noted.blocks.length ≤ 1700000000000) := hbl
    refine WN.seq_wp (fun K hK => ?_)
    have HR : Hid (∀ W B, PB w p c S m.noted ls W B ⟨m.view, m.high, qc⟩ → K { tmps := #[.pointer (some ⟨p, 0, none⟩), .chan (some c), undef, undef, .pointer (some ⟨B, 0, none⟩), .pointer (some ⟨p, 0, none⟩), .bool true, .bool false, .pointer (some ⟨p, 0, none⟩), .tuple #[], .pointer (some ⟨p, 0, none⟩), .pointer (some ⟨p, 0, none⟩), .pointer (some ⟨p, 2, none⟩), .int .i64 m.view, .pointer (some ⟨p, 0, none⟩), .pointer (some ⟨p, 0, none⟩), .pointer (some ⟨p, 5, none⟩), .agg #[.int .i64 m.high.view, .int .u64 m.high.block, .int .u64 m.high.s0, .int .u64 m.high.s1, .int .u64 m.high.s2, .int .u64 m.high.s3], .pointer (some ⟨p, 0, none⟩), .string qc, .agg #[.int .i64 m.view, .int .i64 m.high.view, .int .u64 m.high.block, .int .u64 m.high.s0, .int .u64 m.high.s1, .int .u64 m.high.s2, .int .u64 m.high.s3, .string qc], undef, undef, undef, undef, undef, undef, undef], defers := [] } W) := fun W B hpb => by
      refine hK _ _ ?_
      clear hK HTCW HP2 HC2 HF2
      have HPB : Hid (PB w p c S m.noted ls W B ⟨m.view, m.high, qc⟩) := hpb
      have hld := hpb.ld W (Fr.refl _ _)
      dsimp only [Blk.cells] at hld
      clear hpb
      refine WN.seq_wp (fun K hK => ?_)
      go_wp2_with (go_at_call 62; refine (pknow W p S m.noted HPB.out.pm ⟨m.view, m.high, qc⟩ HOK.out HBL.out).mono ?_; rintro e w4 ⟨rfl, hm4, hf4⟩)
      have hns : ∀ k, S k → k ≠ B := fun k hk e => HPB.out.ns (e ▸ hk)
      have hld4 := HPB.out.ld w4 (hf4.mono hns)
      dsimp only [Blk.cells] at hld4
      have hC4 : OutB w4 c ls := HPB.out.ob.fr hf4 hcs
      have hF4 : Fr S w w4 := HPB.out.fr.trans hf4 (fun _ h => .inl h)
      refine WN.region ?_
      refine RS.value (o := _) (d := some 24) (v := .chan (some c)) (w' := w4) rfl rfl rfl rfl ?_
      go_frame
      refine RS.value (o := _) (d := some 25) (v := .pointer (some ⟨p, 0, none⟩)) (w' := w4) rfl rfl rfl rfl ?_
      go_frame
      refine RS.value (o := _) (d := some 26) (v := .agg #[.int .i64 m.view, .int .i64 m.high.view, .int .u64 m.high.block, .int .u64 m.high.s0, .int .u64 m.high.s1, .int .u64 m.high.s2, .int .u64 m.high.s3, .string qc]) (w' := w4) rfl rfl rfl (by go_simp) ?_
      go_frame
      refine RS.call (o := _) (f := 63) (d := some 27) (args := #[.pointer (some ⟨p, 0, none⟩), .agg #[.int .i64 m.view, .int .i64 m.high.view, .int .u64 m.high.block, .int .u64 m.high.s0, .int .u64 m.high.s1, .int .u64 m.high.s2, .int .u64 m.high.s3, .string qc]]) (w' := w4) rfl rfl rfl (by go_simp) ?_
      have hid : (m.noted.knows ⟨m.view, m.high, qc⟩).id = m.id ∧ (m.noted.knows ⟨m.view, m.high, qc⟩).view = m.view := by unfold Mem.knows; split <;> exact ⟨rfl, rfl⟩
      refine (ppropLetter w4 p S _ hm4 ⟨m.view, m.high, qc⟩ HOK.out HOK.out.c1 (by rw [hid.1]; exact hi.i0) (by rw [hid.1]; exact hi.i1) (by rw [hid.2]; omega) (by rw [hid.2]; omega)).mono ?_
      rintro e w5 ⟨rfl, hb5⟩
      have hpl : (m.noted.knows ⟨m.view, m.high, qc⟩).propLtr ⟨m.view, m.high, qc⟩ = m.propLtr ⟨m.view, m.high, qc⟩ := by unfold Mem.propLtr; rw [hid.1, hid.2]
      rw [hpl]
      obtain ⟨s, r, hch⟩ := (hC4.below hb5).ex
      refine ⟨_, rfl, ?_⟩
      go_frame
      refine RS.send (o := _) (c := c) (w' := w5) (z := .tuple #[]) (v := .agg (m.propLtr ⟨m.view, m.high, qc⟩).cells.toArray) (d := none) rfl rfl rfl rfl hch (by simp; omega) (RS.nil ?_)
      refine bodyPost_end (results_none rfl _ _ _) rfl ?_
      rw [HT.out, HNX.out]
      have hF5 : Fr S w w5 := hF4.trans (Fr.of_below (S := S) hb5) (fun _ h => .inl h)
      have hFs := Fr.setChan (S := fun k => k = c) w5 rfl 2 ((ls.map Ltr.val).toArray.push (Value.agg (m.propLtr ⟨m.view, m.high, qc⟩).cells.toArray)) false (s + 1) r false
      refine ⟨rfl, (hm4.below hb5).fr hFs (fun k hk e => hcs (e ▸ hk)) (fun e => hc0 e.symm), ⟨s + 1, r, ?_⟩, (hF5.mono (fun _ h => .inl h)).trans hFs (fun i h => .inl (.inr h))⟩
      rw [List.map_append]
      rw [heap_setChan w5 c 2 _ false (s + 1) r false (hC4.below hb5).lt, List.push_toArray]
      rfl
    clear hK
    go_region_with ((go_at_call 61; refine (HTCW.out _ (by first | exact .inl rfl | exact .inr rfl)).mono ?_; rintro e w3 ⟨rfl, hm3, hA, hB⟩; have hs4 := hm3.see; have y2 := hs4.c2; have y5 := hs4.c5; have y6 := hs4.c6; have y7 := hs4.c7; have y8 := hs4.c8; have y9 := hs4.c9; have y10 := hs4.c10; have yl := hs4.lt; clear hs4; dsimp only [Mem.noted] at y2 y5 y6 y7 y8 y9 y10; first | (obtain ⟨HNB, h00, hpu, HPB⟩ := hB.out rfl; clear hA hB) | (obtain ⟨HNB, h00, hpu, HPB⟩ := hA.out rfl; clear hA hB)))
    all_goals exact HR.out _ _ HPB.out
end Go.Proofs.YtkehpnobidendaaGreatDoor

namespace Go.Proofs.YtkehpnobidendaaGreatDoor
open Go.RowKit Go.Maps Go.Conc

/-- Each list of Enters has each member once. -/
structure Once (m : Mem) : Prop where
  e : ∀ v, (rl (m.entered v)).cnt = (m.entered v).length
theorem wait_yes {m : Mem} (h : m.patience ≤ m.waited + 1 ∧ m.view < 1000) : m.wait = (({ m with waited := m.waited + 1 } : Mem).enter (m.view + 1), [(({ m with waited := m.waited + 1 } : Mem).enter (m.view + 1)).enterLtr]) := by
  unfold Mem.wait; exact if_pos h
theorem wait_no {m : Mem} (h : ¬ (m.patience ≤ m.waited + 1 ∧ m.view < 1000)) : m.wait = ({ m with waited := m.waited + 1 }, []) := by
  unfold Mem.wait; exact if_neg h
theorem inv_wait {m : Mem} (h : Inv m) : Inv m.wait.1 := by
  have hw : Inv ({ m with waited := m.waited + 1 } : Mem) := h.same rfl rfl rfl rfl ⟨h.v0, h.v1⟩ ⟨h.t0, h.t1⟩ (by show 0 ≤ m.waited + 1; have := h.w0; omega) h.hi h.lk h.qc h.ql h.vt
  by_cases hc : m.patience ≤ m.waited + 1 ∧ m.view < 1000
  · rw [wait_yes hc]
    exact inv_enter hw _ ⟨by have := h.v0; omega, by have := hc.2; omega⟩
  · rw [wait_no hc]
    exact hw
theorem wait_lists (m : Mem) : m.wait.1.enters = m.enters ∧ m.wait.1.proposed = m.proposed ∧ m.wait.1.blocks = m.blocks ∧ m.wait.2.length ≤ 1 := by
  by_cases hc : m.patience ≤ m.waited + 1 ∧ m.view < 1000
  · rw [wait_yes hc]; exact ⟨rfl, rfl, rfl, by simp⟩
  · rw [wait_no hc]; exact ⟨rfl, rfl, rfl, by simp⟩
/-- What was sent is handed out, in memory of its own. -/
structure PGave (w w' : World) (p : Nat) (S : Nat → Prop) (m : Mem) (v : Value) (out : List Ltr) : Prop where
  pm : PMem w' p S m
  row : ∃ a cap, v = .slice a out.length cap ∧ Row w' (fun k => w.heap.size ≤ k) 67 20 (.slice a out.length cap) out.length (out.flatMap Ltr.cells)
  fr : Fr S w w'
set_option maxHeartbeats 2000000 in
set_option maxRecDepth 100000 in
theorem ptick (w : World) (p : Nat) (S : Nat → Prop) (m : Mem) (h : PMem w p S m) (hi : Inv m) (hE : Once m) (w1 : m.waited ≤ 100000000000000) (hle : m.enters.length + m.proposed.length ≤ 1700000000000) (hbl : m.blocks.length ≤ 1700000000000) :
    Calls Tryz.prog 18 #[.pointer (some ⟨p, 0, none⟩)] w fun e w' => ∃ v, e = .returned v ∧ PGave w w' p S m.tick.1 v m.tick.2 := by
  have HP : Hid (PMem w p S m) := h
  have HW : Hid (∀ W c, PMem W p S m → OutB W c [] → ¬ S c → c ≠ 0 → Calls Tryz.prog 38 #[.pointer (some ⟨p, 0, none⟩), .chan (some c)] W fun e w' => e = .returned (.tuple #[]) ∧ PMem w' p S m.wait.1 ∧ OutB w' c m.wait.2 ∧ Fr (fun k => S k ∨ k = c) W w') := fun W c a1 a2 a3 a4 => pwait W p c S m a1 a2 a3 a4 hi.i0 hi.i1 hi.v0 hi.v1 hi.w0 w1
  have HPR : Hid (∀ W c, PMem W p S m.wait.1 → OutB W c m.wait.2 → ¬ S c → c ≠ 0 → Calls Tryz.prog 39 #[.pointer (some ⟨p, 0, none⟩), .chan (some c)] W fun e w' => e = .returned (.tuple #[]) ∧ PMem w' p S m.tick.1 ∧ OutB w' c m.tick.2 ∧ Fr (fun k => S k ∨ k = c) W w') := fun W c a1 a2 a3 a4 => by
    have hl := wait_lists m
    exact ppropose W p c S m.wait.1 a1 m.wait.2 hl.2.2.2 a2 a3 a4 (inv_wait hi) (by have := hE.e m.wait.1.view; unfold Mem.entered at *; rw [hl.1]; exact this) (by rw [hl.1, hl.2.1]; exact hle) (by rw [hl.2.2.1]; exact hbl)
  have htl : m.tick.2.length ≤ 2 := by
    have hl := wait_lists m
    have h2 : m.wait.1.ends.2.length ≤ 1 := by
      cases hm : m.wait.1.may with
      | true => rw [ends_yes hm]; simp
      | false => rw [ends_no hm]; simp
    show (m.wait.2 ++ m.wait.1.ends.2).length ≤ 2
    rw [List.length_append]; omega
  have hpos := h.tab.pos
  have hlt := h.lt
  have HLT : Hid (∀ k, S k → k < w.heap.size) := hlt
  clear h hlt
  have hb2 : Below w.heap.size w ((w.alloc (.cells #[.slice none 0 0] 27)).alloc (.chan 2 #[] false 0 0 false)) := bnext (below_alloc _ _) (below_alloc _ _)
  have hR2 : ((w.alloc (.cells #[.slice none 0 0] 27)).alloc (.chan 2 #[] false 0 0 false)).heap[w.heap.size]? = some (.cells #[.slice none 0 0] 27 (0, 0)) := (Below.heap_alloc _ _ _ (by simp)).trans (heap_alloc_new w _)
  have hC2 : OutB ((w.alloc (.cells #[.slice none 0 0] 27)).alloc (.chan 2 #[] false 0 0 false)) (w.heap.size + 1) [] := ⟨0, 0, by have := heap_alloc_new (w.alloc (.cells #[.slice none 0 0] 27)) (.chan 2 #[] false 0 0 false); simpa using this⟩
  have HNS : Hid (¬ S (w.heap.size + 1) ∧ ¬ S w.heap.size) := ⟨fun h => by have := HLT.out _ h; omega, fun h => by have := HLT.out _ h; omega⟩
  have HP2 : Hid (PMem ((w.alloc (.cells #[.slice none 0 0] 27)).alloc (.chan 2 #[] false 0 0 false)) p S m) := HP.out.below hb2
  have HB2 : Hid (Below w.heap.size w ((w.alloc (.cells #[.slice none 0 0] 27)).alloc (.chan 2 #[] false 0 0 false))) := hb2
  have HR2 : Hid (((w.alloc (.cells #[.slice none 0 0] 27)).alloc (.chan 2 #[] false 0 0 false)).heap[w.heap.size]? = some (.cells #[.slice none 0 0] 27 (0, 0))) := hR2
  have HC2 : Hid (OutB ((w.alloc (.cells #[.slice none 0 0] 27)).alloc (.chan 2 #[] false 0 0 false)) (w.heap.size + 1) []) := hC2
  clear hb2 hR2 hC2
  obtain ⟨W2, hW2⟩ : ∃ x, x = (w.alloc (.cells #[.slice none 0 0] 27)).alloc (.chan 2 #[] false 0 0 false) := ⟨_, rfl⟩
  rw [← hW2] at HP2 HB2 HR2 HC2
  go_enter_defers Tryz.func18, Tryz.ntmps18
  go_wp2_with (first
    | (go_at_call 36; refine (pnewOutbox _).mono ?_; rintro e w2 ⟨rfl, rfl⟩)
    | (go_at_call 38; rw [← hW2]; refine (HW.out W2 (w.heap.size + 1) HP2.out HC2.out HNS.out.1 (by omega)).mono ?_; rintro e w3 ⟨rfl, hm3, ho3, hf3⟩; have HM3 : Hid (PMem w3 p S m.wait.1 ∧ OutB w3 (w.heap.size + 1) m.wait.2 ∧ Fr (fun k => S k ∨ k = w.heap.size + 1) W2 w3) := ⟨hm3, ho3, hf3⟩; clear hm3 ho3 hf3)
    | (go_at_call 39; refine (HPR.out w3 (w.heap.size + 1) HM3.out.1 HM3.out.2.1 HNS.out.1 (by omega)).mono ?_; rintro e w4 ⟨rfl, hm4, ho4, hf4⟩; have HM4 : Hid (PMem w4 p S m.tick.1 ∧ OutB w4 (w.heap.size + 1) m.tick.2 ∧ Fr (fun k => S k ∨ k = w.heap.size + 1) W2 w4) := ⟨hm4, ho4, HM3.out.2.2.trans hf4 (fun _ h => .inl h)⟩; have hr4 : w4.heap[w.heap.size]? = some (.cells #[.slice none 0 0] 27 (0, 0)) := (HM4.out.2.2.block w.heap.size (lt_at HR2.out) (fun h => h.elim HNS.out.2 (fun e => by omega))).trans HR2.out; have q4 : w4.cell? ⟨w.heap.size, 0, none⟩ = some (.slice none 0 0) := cell_at hr4 0; have fz4 := free_at hr4; have HR4 : Hid (w4.heap[w.heap.size]? = some (.cells #[.slice none 0 0] 27 (0, 0))) := hr4; clear hm4 ho4 hf4 HM3 hr4))
  have hst : (w4.setCell ⟨w.heap.size, 0, none⟩ (.slice none 0 0)).heap[w.heap.size]? = some (.cells #[.slice none 0 0] 27 (0, 0)) := by
    have := heap_store HR4.out (i := 0) (.slice none 0 0)
    simpa using this
  have hF5 := Fr.setCell (S := fun k => k = w.heap.size) w4 (a := ⟨w.heap.size, 0, none⟩) rfl (.slice none 0 0)
  have hM5 : PMem (w4.setCell ⟨w.heap.size, 0, none⟩ (.slice none 0 0)) p S m.tick.1 := HM4.out.1.fr hF5 (fun _ hk e => HNS.out.2 (e ▸ hk)) (fun e => by omega)
  have hT5 : Took (w4.setCell ⟨w.heap.size, 0, none⟩ (.slice none 0 0)) (w.heap.size + 1) w.heap.size [] m.tick.2 (w4.setCell ⟨w.heap.size, 0, none⟩ (.slice none 0 0)) := ⟨HM4.out.2.1.fr hF5 (by omega), ⟨none, 0, hst, Row.nil _ _ _ _⟩, Fr.refl _ _⟩
  have hFw : Fr S w (w4.setCell ⟨w.heap.size, 0, none⟩ (.slice none 0 0)) := ((Fr.of_below (S := S) HB2.out).trans HM4.out.2.2 (fun i hi => hi.elim .inl (fun e => .inr (by omega)))).trans hF5 (fun i hi => .inr (by omega))
  refine leaves_cons (f := 37) (args := #[.chan (some (w.heap.size + 1)), .pointer (some ⟨w.heap.size, 0, none⟩)]) (by simp) (by simp [go_sem]) ?_
  refine (ptakeAll _ (w.heap.size + 1) w.heap.size m.tick.2 htl (by omega) hT5.ob.lt (lt_at hst) hT5 .returning).mono ?_
  rintro e u' w6 ⟨rfl, rfl, hT⟩
  obtain ⟨a, cap, hR6, hrow6⟩ := hT.row
  have hsz : w.heap.size ≤ (w4.setCell ⟨w.heap.size, 0, none⟩ (.slice none 0 0)).heap.size := hFw.size
  have q6 : w6.cell? ⟨w.heap.size, 0, none⟩ = some (.slice a m.tick.2.length cap) := cell_at hR6 0
  have hres : (results Tryz.f18 #[.pointer (some ⟨p, 0, none⟩), undef, .pointer (some ⟨w.heap.size, 0, none⟩), .chan (some (w.heap.size + 1)), .chan (some (w.heap.size + 1)), .chan (some (w.heap.size + 1)), .pointer (some ⟨p, 0, none⟩), .chan (some (w.heap.size + 1)), .tuple #[], .pointer (some ⟨p, 0, none⟩), .chan (some (w.heap.size + 1)), .tuple #[]]).run Tryz.prog w6 = .ok (.slice a m.tick.2.length cap) w6 := by
    simp [results, Tryz.results18, go_sem, q6]
  refine ⟨_, hres, _, rfl, hM5.fr hT.fr (fun k hk e => ?_) (fun e => ?_), ⟨a, cap, rfl, hrow6.same (fun k hk _ => ⟨rfl, by omega⟩)⟩, hFw.trans hT.fr (fun i hi => .inr (by omega))⟩
  · have := HLT.out k hk
    omega
  · omega
end Go.Proofs.YtkehpnobidendaaGreatDoor
