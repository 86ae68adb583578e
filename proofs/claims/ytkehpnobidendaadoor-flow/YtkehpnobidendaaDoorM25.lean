/- The program's member: propose. The program's member: Tick. The program's small functions under Handle: isView, isBelow, lastOfLog, certOf. -/
import Derived.Test.YtkehpnobidendaaDoorM24
import Derived.Deep.RegionWith
namespace Go.Proofs.YtkehpnobidendaaDoor
open Go.RowKit Go.Maps Go.Conc

theorem ld_blk (a : Addr) : loadVar 38 a = rowVar 38 a := rfl
theorem put_blk (a : Addr) (v : Value) : storeVar 38 a v = rowPut 38 a v := rfl
attribute [local go_sem ↓] ld_blk put_blk
theorem blk_size8 : (Tryd.prog.info? 38).map (·.size) = some 8 := by kernel_rfl
theorem ends_ltr (m : Mem) (h : m.may = true) : m.ends = (m.noted.knows m.next, [m.propLtr m.next]) := by
  rw [ends_yes h]; rfl
/-- One of two members. -/
structure PQ (p : Nat) (S : Nat → Prop) (m1 m2 : Mem) (w' : World) : Prop where
  is : PMem w' p S m1 ∨ PMem w' p S m2
theorem PQ.alloc {p : Nat} {S : Nat → Prop} {m1 m2 : Mem} {w' : World} (h : PQ p S m1 m2 w') (o : Obj) : PQ p S m1 m2 (w'.alloc o) := ⟨h.is.imp (fun h => h.alloc o) (fun h => h.alloc o)⟩
theorem PQ.drew {p : Nat} {S : Nat → Prop} {m1 m2 : Mem} {w' : World} (h : PQ p S m1 m2 w') : PQ p S m1 m2 w'.drew := ⟨h.is.imp (fun h => h.heap rfl) (fun h => h.heap rfl)⟩
theorem PQ.put {p : Nat} {S : Nat → Prop} {m1 m2 : Mem} {w' : World} (h : PQ p S m1 m2 w') {B : Nat} (hB : ¬ S B) (h0 : B ≠ 0) (vs : List Value) : PQ p S m1 m2 (w'.setCells B 0 vs) :=
  have hf := Fr.setCells (S := fun k => k = B) (B := B) rfl vs 0 w'
  ⟨h.is.imp (fun h => h.fr hf (fun _ hk e => hB (e ▸ hk)) (fun e => h0 e.symm)) (fun h => h.fr hf (fun _ hk e => hB (e ▸ hk)) (fun e => h0 e.symm))⟩
/-- Eight cells that lie whole. -/
theorem there8 {w : World} {B : Nat} {C : Array Value} {T : TypeId} (h : w.heap[B]? = some (.cells C T (0, 0))) (hC : C.size = 8) : w.there B 0 8 := fun j hj => by
  refine ⟨?_, free_at h _⟩
  rw [cell_at h]
  simp; omega
theorem put8 {w : World} {B : Nat} {C : Array Value} {T : TypeId} (h : w.heap[B]? = some (.cells C T (0, 0))) (hC : C.size = 8) (b : Blk) : (rowPut 38 ⟨B, 0, none⟩ (.agg b.cells.toArray)).run Tryd.prog w = .ok () (w.setCells B 0 b.cells) :=
  rowPut_mid w B 0 38 b.cells.toArray (there8 h hC) blk_size8 (by simp [Blk.cells, Value.oneCell'])
/-- Where the block that is proposed lies. -/
structure PB (w : World) (p c : Nat) (S : Nat → Prop) (m : Mem) (ls : List Ltr) (W : World) (B : Nat) (b : Blk) : Prop where
  pm : PMem W p S m
  ns : ¬ S B
  ob : OutB W c ls
  fr : Fr S w W
  ld : ∀ W', Fr (fun k => k ≠ B) W W' → (rowVar 38 ⟨B, 0, none⟩).run Tryd.prog W' = .ok (.agg b.cells.toArray) W'
theorem PB.mk8 {w W : World} {p c B : Nat} {S : Nat → Prop} {m : Mem} {ls : List Ltr} {C : Array Value} {T : TypeId} (h : W.heap[B]? = some (.cells C T (0, 0))) (hC : C.size = 8) (b : Blk) (pm : PMem W p S m) (ob : OutB W c ls) (fr : Fr S w W) (hB : ¬ S B) (h0 : B ≠ 0) (hw : w.heap.size ≤ B) : PB w p c S m ls (W.setCells B 0 b.cells) B b := by
  have hf := Fr.setCells (S := fun k => k = B) (B := B) rfl b.cells 0 W
  have hcb : c ≠ B := fun e => by obtain ⟨s, r, hc⟩ := ob.ex; rw [e, h] at hc; cases hc
  refine ⟨pm.fr hf (fun _ hk e => hB (e ▸ hk)) (fun e => h0 e.symm), hB, ob.fr hf hcb, fr.trans hf (fun i hi => .inr (by rw [hi]; exact hw)), fun W' hf' => ?_⟩
  have hr := World.rangeAt_setCells_same W B 0 b.cells (there8 h hC)
  have hlt : B < (W.setCells B 0 b.cells).heap.size := Nat.lt_of_lt_of_le (lt_at h) hf.size
  exact rowVar_mid W' B 0 38 b.cells _ (fun j v hv => by rw [World.cell?_of_block (hf'.block B hlt (fun h => h rfl))]; exact hr j v hv) Tryd.underlying38 rfl blk_size8
set_option maxHeartbeats 4000000 in
set_option maxRecDepth 100000 in
theorem ppropose (w : World) (p c : Nat) (S : Nat → Prop) (m : Mem) (h : PMem w p S m) (ls : List Ltr) (hls : ls.length ≤ 1) (hc : OutB w c ls) (hcs : ¬ S c) (hc0 : c ≠ 0) (hi : Inv m) (hE : (rl (m.entered m.view)).cnt = (m.entered m.view).length) (hle : m.enters.length + m.proposed.length ≤ 1700000000000) (hbl : m.blocks.length ≤ 1700000000000) :
    Calls Tryd.prog 36 #[.pointer (some ⟨p, 0, none⟩), .chan (some c)] w fun e w' => e = .returned (.tuple #[]) ∧ PMem w' p S m.ends.1 ∧ OutB w' c (ls ++ m.ends.2) ∧ Fr (fun k => S k ∨ k = c) w w' := by
  have v0 := hi.v0
  have v1 := hi.v1
  have HP : Hid (PMem w p S m) := h
  have HC : Hid (OutB w c ls) := hc
  have HM : Hid (∀ W, PMem W p S m → Calls Tryd.prog 50 #[.pointer (some ⟨p, 0, none⟩)] W fun e w' => e = .returned (.bool m.may) ∧ Below W.heap.size W w') := fun W hW => pmay W p S m hW v0 v1 hE
  have HI : Hid (Inv m) := hi
  have HCS : Hid (¬ S c) := hcs
  clear h hc hE
  cases hmay : m.may
  · have HT : Hid (m.ends = (m, [])) := ends_no hmay
    refine calls_of_wn Tryd.func36 rfl ?_
    simp only [Tryd.ntmps36, List.size_toArray, List.length_cons, List.length_nil, Nat.reduceAdd, Nat.reduceSub, Array.replicate_succ, Array.replicate_zero, List.push_toArray, List.append_toArray, List.nil_append, List.cons_append]
    refine WN.of_wp ?_
    go_wp2_with (go_at_call 50; refine (HM.out w HP.out).mono ?_; rintro e w1 ⟨rfl, hb1⟩; rw [hmay])
    refine bodyPost_ret (results_none rfl _ _ _) rfl ?_
    rw [HT.out]
    refine ⟨rfl, HP.out.below hb1, ?_, (Fr.of_below hb1)⟩
    rw [List.append_nil]
    exact HC.out.below hb1
  · have HT : Hid (m.ends = (m.noted.knows m.next, [m.propLtr m.next])) := ends_ltr m hmay
    refine calls_of_wn Tryd.func36 rfl ?_
    simp only [Tryd.ntmps36, List.size_toArray, List.length_cons, List.length_nil, Nat.reduceAdd, Nat.reduceSub, Array.replicate_succ, Array.replicate_zero, List.push_toArray, List.append_toArray, List.nil_append, List.cons_append]
    refine WN.seq_wp (fun K hK => ?_)
    go_wp2_with (go_at_call 50; refine (HM.out w HP.out).mono ?_; rintro e w1 ⟨rfl, hb1⟩; rw [hmay])
    have HP1 : Hid (PMem w1 p S m) := HP.out.below hb1
    have HC1 : Hid (OutB w1 c ls) := HC.out.below hb1
    have HF1 : Hid (Fr S w w1) := Fr.of_below hb1
    clear HP HC hb1 HM
    refine WN.seq_wp (fun K hK => ?_)
    go_wp2_with (go_at_call 51; refine (pnote w1 p S m HP1.out v0 v1 hle).mono ?_; rintro e w2 ⟨rfl, hm2, hf2⟩)
    have HP2 : Hid (PMem w2 p S { m with proposed := m.proposed ++ [m.view] }) := hm2
    have HC2 : Hid (OutB w2 c ls) := HC1.out.fr hf2 hcs
    have HF2 : Hid (Fr S w w2) := HF1.out.trans hf2 (fun _ h => .inl h)
    clear HP1 HC1 HF1 hm2 hf2
    have hs2 := HP2.out.see
    have b2 := hs2.c2
    have b5 := hs2.c5
    have b6 := hs2.c6
    have b7 := hs2.c7
    have b8 := hs2.c8
    have b9 := hs2.c9
    have b10 := hs2.c10
    have lp := hs2.lt
    dsimp only at b2 b5 b6 b7 b8 b9 b10
    clear hs2
    have HTC : Hid (∀ W, PMem W p S { m with proposed := m.proposed ++ [m.view] } → Calls Tryd.prog 52 #[.pointer (some ⟨p, 0, none⟩)] W fun e w' => e = .returned (.string (m.queue.headD ⟨#[]⟩)) ∧ PMem w' p S m.noted ∧ Fr S W w') := fun W hW => ptakeCommand W p S { m with proposed := m.proposed ++ [m.view] } hW hi.ql
    have hqz : (m.queue.headD ⟨#[]⟩).size ≤ 16 := by
      cases hq : m.queue with
      | nil => exact Nat.zero_le _
      | cons a r => exact hi.qc a (by rw [hq]; simp)
    have hnx : m.next = ⟨m.view, m.high, m.queue.headD ⟨#[]⟩⟩ := rfl
    generalize m.queue.headD ⟨#[]⟩ = qc at HTC hnx hqz
    have HNX : Hid (m.next = ⟨m.view, m.high, qc⟩) := hnx
    clear hnx
    have HS : Hid (∀ w', PQ p S { m with proposed := m.proposed ++ [m.view] } m.noted w' → PQ p S { m with proposed := m.proposed ++ [m.view] } m.noted w' ∧ w'.cell? ⟨p, 2, none⟩ = some (.int .i64 m.view) ∧ w'.cell? ⟨p, 5, none⟩ = some (.int .i64 m.high.view) ∧ w'.cell? ⟨p, 6, none⟩ = some (.int .u64 m.high.block) ∧ w'.cell? ⟨p, 7, none⟩ = some (.int .u64 m.high.s0) ∧ w'.cell? ⟨p, 8, none⟩ = some (.int .u64 m.high.s1) ∧ w'.cell? ⟨p, 9, none⟩ = some (.int .u64 m.high.s2) ∧ w'.cell? ⟨p, 10, none⟩ = some (.int .u64 m.high.s3)) := fun w' hq => by
      rcases hq.is with h | h
      · have hs := h.see
        exact ⟨hq, hs.c2, hs.c5, hs.c6, hs.c7, hs.c8, hs.c9, hs.c10⟩
      · have hs := h.see
        exact ⟨hq, hs.c2, hs.c5, hs.c6, hs.c7, hs.c8, hs.c9, hs.c10⟩
    have HNS : Hid (¬ S w2.heap.size) := fun h => by have := HP2.out.lt _ h; omega
    have HPB1 : Hid (∀ w3, PMem w3 p S m.noted → Fr S w2.drew w3 → PB w p c S m.noted ls ((w3.alloc (.cells #[.int .i64 0, .int .i64 0, .int .u64 0, .int .u64 0, .int .u64 0, .int .u64 0, .int .u64 0, .string ⟨#[]⟩] 38)).setCells w3.heap.size 0 [.int .i64 m.view, .int .i64 m.high.view, .int .u64 m.high.block, .int .u64 m.high.s0, .int .u64 m.high.s1, .int .u64 m.high.s2, .int .u64 m.high.s3, .string qc]) w3.heap.size ⟨m.view, m.high, qc⟩) := fun w3 hm3 hf3 =>
      PB.mk8 (heap_alloc_new w3 _) rfl ⟨m.view, m.high, qc⟩ (hm3.alloc _) (((HC2.out.same (w' := w2.drew) rfl).fr hf3 hcs).below (below_alloc _ _)) (((HF2.out.trans (Fr.drew S w2) (fun _ h => .inl h)).trans hf3 (fun _ h => .inl h)).trans (Fr.alloc S w3 _) (fun _ h => .inl h)) (fun h => by have := hm3.lt _ h; omega) (by have := hm3.tab.pos; omega) (by have := HF2.out.size; have h4 : w2.heap.size ≤ w3.heap.size := hf3.size; omega)
    have HPB2 : Hid (∀ w3, PMem w3 p S m.noted → Fr S (w2.alloc (.cells #[.int .i64 0, .int .i64 0, .int .u64 0, .int .u64 0, .int .u64 0, .int .u64 0, .int .u64 0, .string ⟨#[]⟩] 38)).drew w3 → PB w p c S m.noted ls (w3.setCells w2.heap.size 0 [.int .i64 m.view, .int .i64 m.high.view, .int .u64 m.high.block, .int .u64 m.high.s0, .int .u64 m.high.s1, .int .u64 m.high.s2, .int .u64 m.high.s3, .string qc]) w2.heap.size ⟨m.view, m.high, qc⟩) := fun w3 hm3 hf3 =>
      PB.mk8 ((hf3.block w2.heap.size (by simp) HNS.out).trans (heap_alloc_new w2 _)) rfl ⟨m.view, m.high, qc⟩ hm3 (((HC2.out.below (below_alloc _ _)).same (w' := (w2.alloc (.cells #[.int .i64 0, .int .i64 0, .int .u64 0, .int .u64 0, .int .u64 0, .int .u64 0, .int .u64 0, .string ⟨#[]⟩] 38)).drew) rfl).fr hf3 hcs) (((HF2.out.trans (Fr.alloc S w2 _) (fun _ h => .inl h)).trans (Fr.drew S _) (fun _ h => .inl h)).trans hf3 (fun _ h => .inl h)) HNS.out (by have := HP2.out.tab.pos; omega) (by have := HF2.out.size; omega)
    have HTCW : Hid (∀ W, (W = w2.drew ∨ W = (w2.alloc (.cells #[.int .i64 0, .int .i64 0, .int .u64 0, .int .u64 0, .int .u64 0, .int .u64 0, .int .u64 0, .string ⟨#[]⟩] 38)).drew) → Calls Tryd.prog 52 #[.pointer (some ⟨p, 0, none⟩)] W fun e w' => e = .returned (.string qc) ∧ PMem w' p S m.noted ∧ Hid (W = w2.drew → (¬ S w'.heap.size ∧ w'.heap.size ≠ 0 ∧ (rowPut 38 ⟨w'.heap.size, 0, none⟩ (.agg #[.int .i64 m.view, .int .i64 m.high.view, .int .u64 m.high.block, .int .u64 m.high.s0, .int .u64 m.high.s1, .int .u64 m.high.s2, .int .u64 m.high.s3, .string qc])).run Tryd.prog (w'.alloc (.cells #[.int .i64 0, .int .i64 0, .int .u64 0, .int .u64 0, .int .u64 0, .int .u64 0, .int .u64 0, .string ⟨#[]⟩] 38)) = .ok () ((w'.alloc (.cells #[.int .i64 0, .int .i64 0, .int .u64 0, .int .u64 0, .int .u64 0, .int .u64 0, .int .u64 0, .string ⟨#[]⟩] 38)).setCells w'.heap.size 0 [.int .i64 m.view, .int .i64 m.high.view, .int .u64 m.high.block, .int .u64 m.high.s0, .int .u64 m.high.s1, .int .u64 m.high.s2, .int .u64 m.high.s3, .string qc]) ∧ Hid (PB w p c S m.noted ls ((w'.alloc (.cells #[.int .i64 0, .int .i64 0, .int .u64 0, .int .u64 0, .int .u64 0, .int .u64 0, .int .u64 0, .string ⟨#[]⟩] 38)).setCells w'.heap.size 0 [.int .i64 m.view, .int .i64 m.high.view, .int .u64 m.high.block, .int .u64 m.high.s0, .int .u64 m.high.s1, .int .u64 m.high.s2, .int .u64 m.high.s3, .string qc]) w'.heap.size ⟨m.view, m.high, qc⟩))) ∧ Hid (W = (w2.alloc (.cells #[.int .i64 0, .int .i64 0, .int .u64 0, .int .u64 0, .int .u64 0, .int .u64 0, .int .u64 0, .string ⟨#[]⟩] 38)).drew → (¬ S w2.heap.size ∧ w2.heap.size ≠ 0 ∧ (rowPut 38 ⟨w2.heap.size, 0, none⟩ (.agg #[.int .i64 m.view, .int .i64 m.high.view, .int .u64 m.high.block, .int .u64 m.high.s0, .int .u64 m.high.s1, .int .u64 m.high.s2, .int .u64 m.high.s3, .string qc])).run Tryd.prog w' = .ok () (w'.setCells w2.heap.size 0 [.int .i64 m.view, .int .i64 m.high.view, .int .u64 m.high.block, .int .u64 m.high.s0, .int .u64 m.high.s1, .int .u64 m.high.s2, .int .u64 m.high.s3, .string qc]) ∧ Hid (PB w p c S m.noted ls (w'.setCells w2.heap.size 0 [.int .i64 m.view, .int .i64 m.high.view, .int .u64 m.high.block, .int .u64 m.high.s0, .int .u64 m.high.s1, .int .u64 m.high.s2, .int .u64 m.high.s3, .string qc]) w2.heap.size ⟨m.view, m.high, qc⟩)))) := fun W hW => by
      have hPW : PMem W p S { m with proposed := m.proposed ++ [m.view] } := by
        rcases hW with rfl | rfl
        · exact HP2.out.heap rfl
        · exact (HP2.out.alloc _).heap rfl
      refine (HTC.out W hPW).mono (fun e w3 ⟨he, hm3, hf3⟩ => ⟨he, hm3, fun hE => ?_, fun hE => ?_⟩)
      · rw [hE] at hf3
        exact ⟨fun h => by have := hm3.lt _ h; omega, by have := hm3.tab.pos; omega, put8 (heap_alloc_new w3 _) rfl ⟨m.view, m.high, qc⟩, HPB1.out w3 hm3 hf3⟩
      · rw [hE] at hf3
        exact ⟨HNS.out, by have := HP2.out.tab.pos; omega, put8 ((hf3.block w2.heap.size (by simp) HNS.out).trans (heap_alloc_new w2 _)) rfl ⟨m.view, m.high, qc⟩, HPB2.out w3 hm3 hf3⟩
    clear HPB1 HPB2 HTC
    have HOK : Hid (Blk.Ok ⟨m.view, m.high, qc⟩) := ⟨by show -9223372036854775808 ≤ m.view; omega, by show m.view ≤ 9223372036854775807; omega, hi.hi.ok, by show qc.size ≤ 140737488351232; omega⟩
    have HBL : Hid (m.noted.blocks.length ≤ 1700000000000) := hbl
    refine WN.seq_wp (fun K hK => ?_)
    have HR : Hid (∀ W B, PB w p c S m.noted ls W B ⟨m.view, m.high, qc⟩ → K { tmps := #[.pointer (some ⟨p, 0, none⟩), .chan (some c), undef, undef, .pointer (some ⟨B, 0, none⟩), .pointer (some ⟨p, 0, none⟩), .bool true, .bool false, .pointer (some ⟨p, 0, none⟩), .tuple #[], .pointer (some ⟨p, 0, none⟩), .pointer (some ⟨p, 0, none⟩), .pointer (some ⟨p, 2, none⟩), .int .i64 m.view, .pointer (some ⟨p, 0, none⟩), .pointer (some ⟨p, 0, none⟩), .pointer (some ⟨p, 5, none⟩), .agg #[.int .i64 m.high.view, .int .u64 m.high.block, .int .u64 m.high.s0, .int .u64 m.high.s1, .int .u64 m.high.s2, .int .u64 m.high.s3], .pointer (some ⟨p, 0, none⟩), .string qc, .agg #[.int .i64 m.view, .int .i64 m.high.view, .int .u64 m.high.block, .int .u64 m.high.s0, .int .u64 m.high.s1, .int .u64 m.high.s2, .int .u64 m.high.s3, .string qc], undef, undef, undef, undef, undef, undef, undef], defers := [] } W) := fun W B hpb => by
      refine hK _ _ ?_
      clear hK HTCW HP2 HC2 HF2
      have HPB : Hid (PB w p c S m.noted ls W B ⟨m.view, m.high, qc⟩) := hpb
      have hld := hpb.ld W (Fr.refl _ _)
      dsimp only [Blk.cells] at hld
      clear hpb
      refine WN.seq_wp (fun K hK => ?_)
      go_wp2_with (go_at_call 53; refine (pknow W p S m.noted HPB.out.pm ⟨m.view, m.high, qc⟩ HOK.out HBL.out).mono ?_; rintro e w4 ⟨rfl, hm4, hf4⟩)
      have hns : ∀ k, S k → k ≠ B := fun k hk e => HPB.out.ns (e ▸ hk)
      have hld4 := HPB.out.ld w4 (hf4.mono hns)
      dsimp only [Blk.cells] at hld4
      have hC4 : OutB w4 c ls := HPB.out.ob.fr hf4 hcs
      have hF4 : Fr S w w4 := HPB.out.fr.trans hf4 (fun _ h => .inl h)
      refine WN.region ?_
      refine RS.value (o := _) (d := some 24) (v := .chan (some c)) (w' := w4) rfl rfl rfl rfl ?_
      go_frame
      refine RS.value (o := _) (d := some 25) (v := .pointer (some ⟨p, 0, none⟩)) (w' := w4) rfl rfl rfl rfl ?_
      go_frame
      refine RS.value (o := _) (d := some 26) (v := .agg #[.int .i64 m.view, .int .i64 m.high.view, .int .u64 m.high.block, .int .u64 m.high.s0, .int .u64 m.high.s1, .int .u64 m.high.s2, .int .u64 m.high.s3, .string qc]) (w' := w4) rfl rfl rfl (by go_simp) ?_
      go_frame
      refine RS.call (o := _) (f := 54) (d := some 27) (args := #[.pointer (some ⟨p, 0, none⟩), .agg #[.int .i64 m.view, .int .i64 m.high.view, .int .u64 m.high.block, .int .u64 m.high.s0, .int .u64 m.high.s1, .int .u64 m.high.s2, .int .u64 m.high.s3, .string qc]]) (w' := w4) rfl rfl rfl (by go_simp) ?_
      have hid : (m.noted.knows ⟨m.view, m.high, qc⟩).id = m.id ∧ (m.noted.knows ⟨m.view, m.high, qc⟩).view = m.view := by unfold Mem.knows; split <;> exact ⟨rfl, rfl⟩
      refine (ppropLetter w4 p S _ hm4 ⟨m.view, m.high, qc⟩ HOK.out HOK.out.c1 (by rw [hid.1]; exact hi.i0) (by rw [hid.1]; exact hi.i1) (by rw [hid.2]; omega) (by rw [hid.2]; omega)).mono ?_
      rintro e w5 ⟨rfl, hb5⟩
      have hpl : (m.noted.knows ⟨m.view, m.high, qc⟩).propLtr ⟨m.view, m.high, qc⟩ = m.propLtr ⟨m.view, m.high, qc⟩ := by unfold Mem.propLtr; rw [hid.1, hid.2]
      rw [hpl]
      obtain ⟨s, r, hch⟩ := (hC4.below hb5).ex
      refine ⟨_, rfl, ?_⟩
      go_frame
      refine RS.send (o := _) (c := c) (w' := w5) (z := .tuple #[]) (v := .agg (m.propLtr ⟨m.view, m.high, qc⟩).cells.toArray) (d := none) rfl rfl rfl rfl hch (by simp; omega) (RS.nil ?_)
      refine bodyPost_end (results_none rfl _ _ _) rfl ?_
      rw [HT.out, HNX.out]
      have hF5 : Fr S w w5 := hF4.trans (Fr.of_below (S := S) hb5) (fun _ h => .inl h)
      have hFs := Fr.setChan (S := fun k => k = c) w5 rfl 2 ((ls.map Ltr.val).toArray.push (Value.agg (m.propLtr ⟨m.view, m.high, qc⟩).cells.toArray)) false (s + 1) r false
      refine ⟨rfl, (hm4.below hb5).fr hFs (fun k hk e => hcs (e ▸ hk)) (fun e => hc0 e.symm), ⟨s + 1, r, ?_⟩, (hF5.mono (fun _ h => .inl h)).trans hFs (fun i h => .inl (.inr h))⟩
      rw [List.map_append]
      rw [heap_setChan w5 c 2 _ false (s + 1) r false (hC4.below hb5).lt, List.push_toArray]
      rfl
    clear hK
    go_region_with ((go_at_call 52; refine (HTCW.out _ (by first | exact .inl rfl | exact .inr rfl)).mono ?_; rintro e w3 ⟨rfl, hm3, hA, hB⟩; have hs4 := hm3.see; have y2 := hs4.c2; have y5 := hs4.c5; have y6 := hs4.c6; have y7 := hs4.c7; have y8 := hs4.c8; have y9 := hs4.c9; have y10 := hs4.c10; have yl := hs4.lt; clear hs4; dsimp only [Mem.noted] at y2 y5 y6 y7 y8 y9 y10; first | (obtain ⟨HNB, h00, hpu, HPB⟩ := hB.out rfl; clear hA hB) | (obtain ⟨HNB, h00, hpu, HPB⟩ := hA.out rfl; clear hA hB)))
    all_goals exact HR.out _ _ HPB.out
end Go.Proofs.YtkehpnobidendaaDoor

namespace Go.Proofs.YtkehpnobidendaaDoor
open Go.RowKit Go.Maps Go.Conc

/-- Each list of Enters has each member once. -/
structure Once (m : Mem) : Prop where
  e : ∀ v, (rl (m.entered v)).cnt = (m.entered v).length
theorem wait_yes {m : Mem} (h : m.patience ≤ m.waited + 1 ∧ m.view < 1000) : m.wait = (({ m with waited := m.waited + 1 } : Mem).enter (m.view + 1), [(({ m with waited := m.waited + 1 } : Mem).enter (m.view + 1)).enterLtr]) := by
  unfold Mem.wait; exact if_pos h
theorem wait_no {m : Mem} (h : ¬ (m.patience ≤ m.waited + 1 ∧ m.view < 1000)) : m.wait = ({ m with waited := m.waited + 1 }, []) := by
  unfold Mem.wait; exact if_neg h
theorem inv_wait {m : Mem} (h : Inv m) : Inv m.wait.1 := by
  have hw : Inv ({ m with waited := m.waited + 1 } : Mem) := h.same rfl rfl rfl rfl ⟨h.v0, h.v1⟩ ⟨h.t0, h.t1⟩ (by show 0 ≤ m.waited + 1; have := h.w0; omega) h.hi h.lk h.qc h.ql h.vt
  by_cases hc : m.patience ≤ m.waited + 1 ∧ m.view < 1000
  · rw [wait_yes hc]
    exact inv_enter hw _ ⟨by have := h.v0; omega, by have := hc.2; omega⟩
  · rw [wait_no hc]
    exact hw
theorem wait_lists (m : Mem) : m.wait.1.enters = m.enters ∧ m.wait.1.proposed = m.proposed ∧ m.wait.1.blocks = m.blocks ∧ m.wait.2.length ≤ 1 := by
  by_cases hc : m.patience ≤ m.waited + 1 ∧ m.view < 1000
  · rw [wait_yes hc]; exact ⟨rfl, rfl, rfl, by simp⟩
  · rw [wait_no hc]; exact ⟨rfl, rfl, rfl, by simp⟩
/-- What was sent is handed out, in memory of its own. -/
structure PGave (w w' : World) (p : Nat) (S : Nat → Prop) (m : Mem) (v : Value) (out : List Ltr) : Prop where
  pm : PMem w' p S m
  row : ∃ a cap, v = .slice a out.length cap ∧ Row w' (fun k => w.heap.size ≤ k) 42 20 (.slice a out.length cap) out.length (out.flatMap Ltr.cells)
  fr : Fr S w w'
set_option maxHeartbeats 2000000 in
set_option maxRecDepth 100000 in
theorem ptick (w : World) (p : Nat) (S : Nat → Prop) (m : Mem) (h : PMem w p S m) (hi : Inv m) (hE : Once m) (w1 : m.waited ≤ 100000000000000) (hle : m.enters.length + m.proposed.length ≤ 1700000000000) (hbl : m.blocks.length ≤ 1700000000000) :
    Calls Tryd.prog 15 #[.pointer (some ⟨p, 0, none⟩)] w fun e w' => ∃ v, e = .returned v ∧ PGave w w' p S m.tick.1 v m.tick.2 := by
  have HP : Hid (PMem w p S m) := h
  have HW : Hid (∀ W c, PMem W p S m → OutB W c [] → ¬ S c → c ≠ 0 → Calls Tryd.prog 35 #[.pointer (some ⟨p, 0, none⟩), .chan (some c)] W fun e w' => e = .returned (.tuple #[]) ∧ PMem w' p S m.wait.1 ∧ OutB w' c m.wait.2 ∧ Fr (fun k => S k ∨ k = c) W w') := fun W c a1 a2 a3 a4 => pwait W p c S m a1 a2 a3 a4 hi.i0 hi.i1 hi.v0 hi.v1 hi.w0 w1
  have HPR : Hid (∀ W c, PMem W p S m.wait.1 → OutB W c m.wait.2 → ¬ S c → c ≠ 0 → Calls Tryd.prog 36 #[.pointer (some ⟨p, 0, none⟩), .chan (some c)] W fun e w' => e = .returned (.tuple #[]) ∧ PMem w' p S m.tick.1 ∧ OutB w' c m.tick.2 ∧ Fr (fun k => S k ∨ k = c) W w') := fun W c a1 a2 a3 a4 => by
    have hl := wait_lists m
    exact ppropose W p c S m.wait.1 a1 m.wait.2 hl.2.2.2 a2 a3 a4 (inv_wait hi) (by have := hE.e m.wait.1.view; unfold Mem.entered at *; rw [hl.1]; exact this) (by rw [hl.1, hl.2.1]; exact hle) (by rw [hl.2.2.1]; exact hbl)
  have htl : m.tick.2.length ≤ 2 := by
    have hl := wait_lists m
    have h2 : m.wait.1.ends.2.length ≤ 1 := by
      cases hm : m.wait.1.may with
      | true => rw [ends_yes hm]; simp
      | false => rw [ends_no hm]; simp
    show (m.wait.2 ++ m.wait.1.ends.2).length ≤ 2
    rw [List.length_append]; omega
  have hpos := h.tab.pos
  have hlt := h.lt
  have HLT : Hid (∀ k, S k → k < w.heap.size) := hlt
  clear h hlt
  have hb2 : Below w.heap.size w ((w.alloc (.cells #[.slice none 0 0] 35)).alloc (.chan 2 #[] false 0 0 false)) := bnext (below_alloc _ _) (below_alloc _ _)
  have hR2 : ((w.alloc (.cells #[.slice none 0 0] 35)).alloc (.chan 2 #[] false 0 0 false)).heap[w.heap.size]? = some (.cells #[.slice none 0 0] 35 (0, 0)) := (Below.heap_alloc _ _ _ (by simp)).trans (heap_alloc_new w _)
  have hC2 : OutB ((w.alloc (.cells #[.slice none 0 0] 35)).alloc (.chan 2 #[] false 0 0 false)) (w.heap.size + 1) [] := ⟨0, 0, by have := heap_alloc_new (w.alloc (.cells #[.slice none 0 0] 35)) (.chan 2 #[] false 0 0 false); simpa using this⟩
  have HNS : Hid (¬ S (w.heap.size + 1) ∧ ¬ S w.heap.size) := ⟨fun h => by have := HLT.out _ h; omega, fun h => by have := HLT.out _ h; omega⟩
  have HP2 : Hid (PMem ((w.alloc (.cells #[.slice none 0 0] 35)).alloc (.chan 2 #[] false 0 0 false)) p S m) := HP.out.below hb2
  have HB2 : Hid (Below w.heap.size w ((w.alloc (.cells #[.slice none 0 0] 35)).alloc (.chan 2 #[] false 0 0 false))) := hb2
  have HR2 : Hid (((w.alloc (.cells #[.slice none 0 0] 35)).alloc (.chan 2 #[] false 0 0 false)).heap[w.heap.size]? = some (.cells #[.slice none 0 0] 35 (0, 0))) := hR2
  have HC2 : Hid (OutB ((w.alloc (.cells #[.slice none 0 0] 35)).alloc (.chan 2 #[] false 0 0 false)) (w.heap.size + 1) []) := hC2
  clear hb2 hR2 hC2
  obtain ⟨W2, hW2⟩ : ∃ x, x = (w.alloc (.cells #[.slice none 0 0] 35)).alloc (.chan 2 #[] false 0 0 false) := ⟨_, rfl⟩
  rw [← hW2] at HP2 HB2 HR2 HC2
  go_enter_defers Tryd.func15, Tryd.ntmps15
  go_wp2_with (first
    | (go_at_call 33; refine (pnewOutbox _).mono ?_; rintro e w2 ⟨rfl, rfl⟩)
    | (go_at_call 35; rw [← hW2]; refine (HW.out W2 (w.heap.size + 1) HP2.out HC2.out HNS.out.1 (by omega)).mono ?_; rintro e w3 ⟨rfl, hm3, ho3, hf3⟩; have HM3 : Hid (PMem w3 p S m.wait.1 ∧ OutB w3 (w.heap.size + 1) m.wait.2 ∧ Fr (fun k => S k ∨ k = w.heap.size + 1) W2 w3) := ⟨hm3, ho3, hf3⟩; clear hm3 ho3 hf3)
    | (go_at_call 36; refine (HPR.out w3 (w.heap.size + 1) HM3.out.1 HM3.out.2.1 HNS.out.1 (by omega)).mono ?_; rintro e w4 ⟨rfl, hm4, ho4, hf4⟩; have HM4 : Hid (PMem w4 p S m.tick.1 ∧ OutB w4 (w.heap.size + 1) m.tick.2 ∧ Fr (fun k => S k ∨ k = w.heap.size + 1) W2 w4) := ⟨hm4, ho4, HM3.out.2.2.trans hf4 (fun _ h => .inl h)⟩; have hr4 : w4.heap[w.heap.size]? = some (.cells #[.slice none 0 0] 35 (0, 0)) := (HM4.out.2.2.block w.heap.size (lt_at HR2.out) (fun h => h.elim HNS.out.2 (fun e => by omega))).trans HR2.out; have q4 : w4.cell? ⟨w.heap.size, 0, none⟩ = some (.slice none 0 0) := cell_at hr4 0; have fz4 := free_at hr4; have HR4 : Hid (w4.heap[w.heap.size]? = some (.cells #[.slice none 0 0] 35 (0, 0))) := hr4; clear hm4 ho4 hf4 HM3 hr4))
  have hst : (w4.setCell ⟨w.heap.size, 0, none⟩ (.slice none 0 0)).heap[w.heap.size]? = some (.cells #[.slice none 0 0] 35 (0, 0)) := by
    have := heap_store HR4.out (i := 0) (.slice none 0 0)
    simpa using this
  have hF5 := Fr.setCell (S := fun k => k = w.heap.size) w4 (a := ⟨w.heap.size, 0, none⟩) rfl (.slice none 0 0)
  have hM5 : PMem (w4.setCell ⟨w.heap.size, 0, none⟩ (.slice none 0 0)) p S m.tick.1 := HM4.out.1.fr hF5 (fun _ hk e => HNS.out.2 (e ▸ hk)) (fun e => by omega)
  have hT5 : Took (w4.setCell ⟨w.heap.size, 0, none⟩ (.slice none 0 0)) (w.heap.size + 1) w.heap.size [] m.tick.2 (w4.setCell ⟨w.heap.size, 0, none⟩ (.slice none 0 0)) := ⟨HM4.out.2.1.fr hF5 (by omega), ⟨none, 0, hst, Row.nil _ _ _ _⟩, Fr.refl _ _⟩
  have hFw : Fr S w (w4.setCell ⟨w.heap.size, 0, none⟩ (.slice none 0 0)) := ((Fr.of_below (S := S) HB2.out).trans HM4.out.2.2 (fun i hi => hi.elim .inl (fun e => .inr (by omega)))).trans hF5 (fun i hi => .inr (by omega))
  refine leaves_cons (f := 34) (args := #[.chan (some (w.heap.size + 1)), .pointer (some ⟨w.heap.size, 0, none⟩)]) (by simp) (by simp [go_sem]) ?_
  refine (ptakeAll _ (w.heap.size + 1) w.heap.size m.tick.2 htl (by omega) hT5.ob.lt (lt_at hst) hT5 .returning).mono ?_
  rintro e u' w6 ⟨rfl, rfl, hT⟩
  obtain ⟨a, cap, hR6, hrow6⟩ := hT.row
  have hsz : w.heap.size ≤ (w4.setCell ⟨w.heap.size, 0, none⟩ (.slice none 0 0)).heap.size := hFw.size
  have q6 : w6.cell? ⟨w.heap.size, 0, none⟩ = some (.slice a m.tick.2.length cap) := cell_at hR6 0
  have hres : (results Tryd.f15 #[.pointer (some ⟨p, 0, none⟩), undef, .pointer (some ⟨w.heap.size, 0, none⟩), .chan (some (w.heap.size + 1)), .chan (some (w.heap.size + 1)), .chan (some (w.heap.size + 1)), .pointer (some ⟨p, 0, none⟩), .chan (some (w.heap.size + 1)), .tuple #[], .pointer (some ⟨p, 0, none⟩), .chan (some (w.heap.size + 1)), .tuple #[]]).run Tryd.prog w6 = .ok (.slice a m.tick.2.length cap) w6 := by
    simp [results, Tryd.results15, go_sem, q6]
  refine ⟨_, hres, _, rfl, hM5.fr hT.fr (fun k hk e => ?_) (fun e => ?_), ⟨a, cap, rfl, hrow6.same (fun k hk _ => ⟨rfl, by omega⟩)⟩, hFw.trans hT.fr (fun i hi => .inr (by omega))⟩
  · have := HLT.out k hk
    omega
  · omega
end Go.Proofs.YtkehpnobidendaaDoor

namespace Go.Proofs.YtkehpnobidendaaDoor
open Go.RowKit Go.Maps

theorem pisView (w : World) (v l : Int) : Calls Tryd.prog 90 #[.int .i64 v, .int .i64 l] w fun e w' => e = .returned (.bool (decide (1 ≤ v ∧ v ≤ l))) ∧ w' = w := by
  by_cases h0 : 1 ≤ v
  · by_cases h1 : v ≤ l
    · have e : decide (1 ≤ v ∧ v ≤ l) = true := by simp; omega
      rw [e]
      go_enter Tryd.func90, Tryd.ntmps90
      go_wp2
      go_ret
      exact ⟨by simp_all, rfl⟩
    · have e : decide (1 ≤ v ∧ v ≤ l) = false := by simp; omega
      rw [e]
      go_enter Tryd.func90, Tryd.ntmps90
      go_wp2
      go_ret
      exact ⟨by simp_all, rfl⟩
  · have e : decide (1 ≤ v ∧ v ≤ l) = false := by simp; omega
    rw [e]
    go_enter Tryd.func90, Tryd.ntmps90
    go_wp2
    go_ret
    exact ⟨by simp_all, rfl⟩
set_option maxRecDepth 100000 in
theorem pisBelow (w : World) (cv : Int) (cb : Nat) (s0 s1 s2 s3 : Int) (v : Int) : Calls Tryd.prog 91 #[.agg #[.int .i64 cv, .int .u64 cb, .int .u64 s0, .int .u64 s1, .int .u64 s2, .int .u64 s3], .int .i64 v] w fun e w' => e = .returned (.bool (decide (0 ≤ cv ∧ cv < v))) ∧ Below w.heap.size w w' := by
  by_cases h0 : 0 ≤ cv
  · by_cases h1 : cv < v
    · have e : decide (0 ≤ cv ∧ cv < v) = true := by simp; omega
      rw [e]
      go_enter Tryd.func91, Tryd.ntmps91
      go_wp2
      go_ret
      exact ⟨by simp_all, by first | exact below_alloc _ _ | exact Below.refl _ _⟩
    · have e : decide (0 ≤ cv ∧ cv < v) = false := by simp; omega
      rw [e]
      go_enter Tryd.func91, Tryd.ntmps91
      go_wp2
      go_ret
      exact ⟨by simp_all, by first | exact below_alloc _ _ | exact Below.refl _ _⟩
  · have e : decide (0 ≤ cv ∧ cv < v) = false := by simp; omega
    rw [e]
    go_enter Tryd.func91, Tryd.ntmps91
    go_wp2
    go_ret
    exact ⟨by simp_all, by first | exact below_alloc _ _ | exact Below.refl _ _⟩
/-- The certificate of a roll of votes. -/
def Rl.crt (r : Rl) (v : Int) (n : Nat) : Crt := ⟨v, n, if r.a then sealOf 0 2 v n else 0, if r.b then sealOf 1 2 v n else 0, if r.c then sealOf 2 2 v n else 0, if r.d then sealOf 3 2 v n else 0⟩
/-- Those of the first j members. -/
def Rl.cut (r : Rl) (j : Nat) : Rl := ⟨r.a && decide (0 < j), r.b && decide (1 < j), r.c && decide (2 < j), r.d && decide (3 < j)⟩
structure CertAt (w wr : World) (v : Int) (n : Nat) (r : Rl) (j : Nat) : Prop where
  x : wr.heap[w.heap.size + 1]? = some (.cells #[.int .i64 0, .int .u64 0, .int .u64 0, .int .u64 0, .int .u64 0, .int .u64 0] 26 (0, 0))
  y : wr.heap[w.heap.size + 2]? = some (.cells ((r.cut j).crt v n).cells.toArray 26 (0, 0))
  b : Below w.heap.size w wr
theorem CertAt.same {w wr w' : World} {v : Int} {n : Nat} {r : Rl} {j j' : Nat} (h : CertAt w wr v n r j) (hb : Below wr.heap.size wr w') (hj : r.cut j' = r.cut j) : CertAt w w' v n r j' :=
  ⟨(hb.block _ (lt_at h.x)).trans h.x, by rw [hj]; exact (hb.block _ (lt_at h.y)).trans h.y, bnext h.b hb⟩
theorem CertAt.put {w w1 : World} {v : Int} {n : Nat} {r : Rl} {j j' : Nat} (h : CertAt w w1 v n r j) (o : Nat) (x : Value) (hj : (((r.cut j).crt v n).cells.toArray).setIfInBounds o x = ((r.cut j').crt v n).cells.toArray) : CertAt w (w1.setCell ⟨w.heap.size + 2, o, none⟩ x) v n r j' := by
  refine ⟨(heap_store_ne _ (by omega)).trans h.x, ?_, h.b.setCell (p := ⟨w.heap.size + 2, o, none⟩) (by show w.heap.size ≤ w.heap.size + 2; omega) _⟩
  rw [← hj]; exact heap_store h.y x
theorem heap_new_at {w : World} {k : Nat} (o : Obj) (h : w.heap.size = k) : (w.alloc o).heap[k]? = some o := by subst h; exact heap_alloc_new w o
theorem certStart (w : World) (o : Obj) (v : Int) (n : Nat) (r : Rl) : CertAt w (((w.alloc o).alloc (.cells #[.int .i64 0, .int .u64 0, .int .u64 0, .int .u64 0, .int .u64 0, .int .u64 0] 26)).alloc (.cells #[.int .i64 v, .int .u64 n, .int .u64 0, .int .u64 0, .int .u64 0, .int .u64 0] 26)) v n r 0 := by
  refine ⟨?_, ?_, bnext (bnext (below_alloc _ _) (below_alloc _ _)) (below_alloc _ _)⟩
  · rw [Below.heap_alloc _ _ _ (by simp)]
    exact heap_new_at _ (by simp)
  · have e : ((r.cut 0).crt v n).cells.toArray = #[.int .i64 v, .int .u64 n, .int .u64 0, .int .u64 0, .int .u64 0, .int .u64 0] := by simp [Rl.cut, Rl.crt, Crt.cells]
    rw [e]
    exact heap_new_at _ (by simp)
set_option maxRecDepth 100000 in
set_option maxHeartbeats 2000000 in
theorem pcertOf (w : World) (v : Int) (n : Nat) (r : Rl) (v0 : -9223372036854775808 ≤ v) (v1 : v ≤ 9223372036854775807) (hn : n < 18446744073709551616) (ht : Tab w) :
    Calls Tryd.prog 76 #[.int .i64 v, .int .u64 n, rollV r] w fun e w' => e = .returned (.agg (r.crt v n).cells.toArray) ∧ Below w.heap.size w w' := by
  obtain ⟨ra, rb, rc, rd⟩ := r
  dsimp only [rollV]
  have i0 := ix0
  have i1 := ix1
  have i2 := ix2
  have i3 := ix3
  have HS : Hid (∀ (j : Int) (W : World), 0 ≤ j → j ≤ 3 → Below w.heap.size w W → Calls Tryd.prog 11 #[.int .i64 j, .int .i64 2, .int .i64 v, .int .u64 n] W fun e w' => e = .returned (.int .u64 (sealOf j 2 v n)) ∧ Below W.heap.size W w') := fun j W h0 h1 hW => pseal j 2 v n (by omega) (by omega) (by decide) (by decide) v0 v1 hn W (ht.below hW).is
  clear ht
  obtain ⟨⟨dv, db, d0, d1, d2, d3⟩, hR⟩ : ∃ R, R = (⟨ra, rb, rc, rd⟩ : Rl).crt v n := ⟨_, rfl⟩
  rw [← hR]
  have HR : Hid ((⟨dv, db, d0, d1, d2, d3⟩ : Crt) = (⟨ra, rb, rc, rd⟩ : Rl).crt v n) := hR
  clear hR
  dsimp only [Crt.cells]
  go_enter Tryd.func76, Tryd.ntmps76
  go_wp2
  go_loopw [8, 9, 14] (fun _ _ i wr => ∃ j : Nat, j ≤ 4 ∧ i = .int .i64 j ∧ Hid (CertAt w wr v n ⟨ra, rb, rc, rd⟩ j)) (fun _ _ i _ => 4 - (intOf i).toNat)
  case atStart =>
    exact ⟨0, by omega, rfl, certStart w _ v n _⟩
  case round =>
  obtain ⟨j, hj, rfl, hC⟩ := hrel
  by_cases hlt : j < 4
  · rcases (by omega : j = 0 ∨ j = 1 ∨ j = 2 ∨ j = 3) with rfl | rfl | rfl | rfl
    · cases ra
      · have hcj : (⟨false, rb, rc, rd⟩ : Rl).cut 1 = (⟨false, rb, rc, rd⟩ : Rl).cut 0 := by simp [Rl.cut]
        go_wp2
        go_roundw
        case rel => exact ⟨1, by omega, rfl, (hC.out).same (Below.refl _ _) hcj⟩
        case measure => simp [intOf]
      · go_wp2_with (go_at_call 11; refine (HS.out 0 wr (by omega) (by omega) hC.out.b).mono ?_; rintro e w1 ⟨rfl, hb1⟩; have hC1 := hC.out.same hb1 rfl; have fz := free_at hC1.y; have c7 := cell_at hC1.y 2; have HC1 : Hid (CertAt w w1 v n ⟨true, rb, rc, rd⟩ 0) := hC1; clear hC1)
        go_roundw
        case rel => exact ⟨1, by omega, rfl, HC1.out.put 2 _ (by simp [Rl.cut, Rl.crt, Crt.cells])⟩
        case measure => simp [intOf]
    · cases rb
      · have hcj : (⟨ra, false, rc, rd⟩ : Rl).cut 2 = (⟨ra, false, rc, rd⟩ : Rl).cut 1 := by simp [Rl.cut]
        go_wp2
        go_roundw
        case rel => exact ⟨2, by omega, rfl, (hC.out).same (Below.refl _ _) hcj⟩
        case measure => simp [intOf]
      · go_wp2_with (go_at_call 11; refine (HS.out 1 wr (by omega) (by omega) hC.out.b).mono ?_; rintro e w1 ⟨rfl, hb1⟩; have hC1 := hC.out.same hb1 rfl; have fz := free_at hC1.y; have c7 := cell_at hC1.y 3; have HC1 : Hid (CertAt w w1 v n ⟨ra, true, rc, rd⟩ 1) := hC1; clear hC1)
        go_roundw
        case rel => exact ⟨2, by omega, rfl, HC1.out.put 3 _ (by simp [Rl.cut, Rl.crt, Crt.cells])⟩
        case measure => simp [intOf]
    · cases rc
      · have hcj : (⟨ra, rb, false, rd⟩ : Rl).cut 3 = (⟨ra, rb, false, rd⟩ : Rl).cut 2 := by simp [Rl.cut]
        go_wp2
        go_roundw
        case rel => exact ⟨3, by omega, rfl, (hC.out).same (Below.refl _ _) hcj⟩
        case measure => simp [intOf]
      · go_wp2_with (go_at_call 11; refine (HS.out 2 wr (by omega) (by omega) hC.out.b).mono ?_; rintro e w1 ⟨rfl, hb1⟩; have hC1 := hC.out.same hb1 rfl; have fz := free_at hC1.y; have c7 := cell_at hC1.y 4; have HC1 : Hid (CertAt w w1 v n ⟨ra, rb, true, rd⟩ 2) := hC1; clear hC1)
        go_roundw
        case rel => exact ⟨3, by omega, rfl, HC1.out.put 4 _ (by simp [Rl.cut, Rl.crt, Crt.cells])⟩
        case measure => simp [intOf]
    · cases rd
      · have hcj : (⟨ra, rb, rc, false⟩ : Rl).cut 4 = (⟨ra, rb, rc, false⟩ : Rl).cut 3 := by simp [Rl.cut]
        go_wp2
        go_roundw
        case rel => exact ⟨4, by omega, rfl, (hC.out).same (Below.refl _ _) hcj⟩
        case measure => simp [intOf]
      · go_wp2_with (go_at_call 11; refine (HS.out 3 wr (by omega) (by omega) hC.out.b).mono ?_; rintro e w1 ⟨rfl, hb1⟩; have hC1 := hC.out.same hb1 rfl; have fz := free_at hC1.y; have c7 := cell_at hC1.y 5; have HC1 : Hid (CertAt w w1 v n ⟨ra, rb, rc, true⟩ 3) := hC1; clear hC1)
        go_roundw
        case rel => exact ⟨4, by omega, rfl, HC1.out.put 5 _ (by simp [Rl.cut, Rl.crt, Crt.cells])⟩
        case measure => simp [intOf]
  · have hj4 : j = 4 := by omega
    subst hj4
    have hx := hC.out.x
    have hy := hC.out.y
    have ecut : (⟨ra, rb, rc, rd⟩ : Rl).cut 4 = ⟨ra, rb, rc, rd⟩ := by simp [Rl.cut]
    rw [ecut, ← HR.out] at hy
    dsimp only [Crt.cells] at hy
    have HB : Hid (Below w.heap.size w wr) := hC.out.b
    have fx := free_at hx
    have x0 := cell_at hx 0
    have x1 := cell_at hx 1
    have x2 := cell_at hx 2
    have x3 := cell_at hx 3
    have x4 := cell_at hx 4
    have x5 := cell_at hx 5
    have y0 := cell_at hy 0
    have y1 := cell_at hy 1
    have y2 := cell_at hy 2
    have y3 := cell_at hy 3
    have y4 := cell_at hy 4
    have y5 := cell_at hy 5
    have HX : Hid (wr.heap[w.heap.size + 1]? = some (.cells #[.int .i64 0, .int .u64 0, .int .u64 0, .int .u64 0, .int .u64 0, .int .u64 0] 26 (0, 0))) := hx
    clear hC hx hy ecut
    go_wp2
    have e1 := heap_store (heap_store (heap_store (heap_store (heap_store (heap_store HX.out (i := 0) (.int .i64 dv)) (i := 1) (.int .u64 db)) (i := 2) (.int .u64 d0)) (i := 3) (.int .u64 d1)) (i := 4) (.int .u64 d2)) (i := 5) (.int .u64 d3)
    have hle : w.heap.size ≤ w.heap.size + 1 := by omega
    have e2 := (((((HB.out.setCell (p := ⟨w.heap.size + 1, 0, none⟩) hle (.int .i64 dv)).setCell (p := ⟨w.heap.size + 1, 1, none⟩) hle (.int .u64 db)).setCell (p := ⟨w.heap.size + 1, 2, none⟩) hle (.int .u64 d0)).setCell (p := ⟨w.heap.size + 1, 3, none⟩) hle (.int .u64 d1)).setCell (p := ⟨w.heap.size + 1, 4, none⟩) hle (.int .u64 d2)).setCell (p := ⟨w.heap.size + 1, 5, none⟩) hle (.int .u64 d3)
    refine bodyPost_ret (results_cell rfl rfl e1 rfl Tryd.underlying26 (by kernel_rfl)) rfl ⟨rfl, e2⟩
theorem plastNil (w : World) (p : Nat) (S : Nat → Prop) (m : Mem) (h : PMem w p S m) (hn : m.log = []) :
    Calls Tryd.prog 101 #[.pointer (some ⟨p, 0, none⟩)] w fun e w' => e = .returned (.int .u64 0) ∧ w' = w := by
  obtain ⟨vq, vl, bb, bv, bw, hb, _⟩ := h.ex
  have hr : Row w S 22 1 vl m.log.length (m.log.flatMap ncells) := hb.row 1 _ _ _ rfl rfl rfl
  obtain ⟨a, cap, rfl⟩ := hr.isSlice
  have c18 : w.cell? ⟨p, 18, none⟩ = some (.slice a m.log.length cap) := cell_at hb.box 18
  rw [hn] at c18
  clear h hr hb
  go_enter Tryd.func101, Tryd.ntmps101
  go_wp2
  go_ret
  exact ⟨rfl, rfl⟩
theorem plastSome (w : World) (p : Nat) (S : Nat → Prop) (m : Mem) (h : PMem w p S m) (l : List Nat) (z : Nat) (hn : m.log = l ++ [z]) (hl : l.length ≤ 1700000000000) :
    Calls Tryd.prog 101 #[.pointer (some ⟨p, 0, none⟩)] w fun e w' => e = .returned (.int .u64 z) ∧ Below w.heap.size w w' := by
  obtain ⟨vq, vl, bb, bv, bw, hb, _⟩ := h.ex
  have hr : Row w S 22 1 vl m.log.length (m.log.flatMap ncells) := hb.row 1 _ _ _ rfl rfl rfl
  obtain ⟨a, cap, rfl⟩ := hr.isSlice
  have hlen : m.log.length = l.length + 1 := by rw [hn]; simp
  obtain ⟨g, off, rfl, _, hg, hcp⟩ := hr.place (by omega)
  have c18 : w.cell? ⟨p, 18, none⟩ = some (.slice (some ⟨g, off, none⟩) m.log.length cap) := cell_at hb.box 18
  have q : w.cell? ⟨g, off + l.length, none⟩ = some (.int .u64 z) := by
    have hn1 : ∀ a, (ncells a).length = 1 := fun _ => rfl
    have := hr.elem hn1 l.length 0 (by rw [hlen]; omega) (by omega)
    simpa [ncells, hn] using this
  rw [hlen] at c18
  have i0 : (0 : Int) ≤ (l.length : Int) := by omega
  have i1 : ((l.length : Int) + 1 == 0) = false := by simp; omega
  have i2 : (l.length : Int) + 1 - 1 = (l.length : Int) := by omega
  clear h hr hb hn hlen
  go_enter Tryd.func101, Tryd.ntmps101
  go_wp2
  go_quiet (fail)
  go_wp2
  go_ret
  exact ⟨rfl, below_drewN (Below.refl _ _) _⟩
end Go.Proofs.YtkehpnobidendaaDoor
