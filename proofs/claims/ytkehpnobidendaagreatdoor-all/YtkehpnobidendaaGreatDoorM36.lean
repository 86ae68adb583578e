/- The model: what the program's side needs of a member besides (Inv2): the log is a way up; the votes that were taken have right seals, each member's once; Enters likewise. Every call keeps it. No program in it. The program's learn. The program's takeVote. The program's takeEnter. The program's agreesWith. The program's takeProposal. -/
import Derived.Test.YtkehpnobidendaaGreatDoorM33
import Derived.Test.YtkehpnobidendaaGreatDoorM35
import Derived.Test.YtkehpnobidendaaGreatDoorM34
namespace Go.Proofs.YtkehpnobidendaaGreatDoor

structure Inv2 (m : Mem) : Prop where
  up : Up m 0 m.log
  vs : ∀ t ∈ m.votes, (m.block t.n).isSome = true ∧ t.sl = sealOf t.fro 2 (m.vw t.n) t.n
  vo : ∀ n, (rl (m.votesFor n)).cnt = (m.votesFor n).length
  eo : Once m
theorem Inv2.same {m m' : Mem} (h : Inv2 m) (hb : m'.blocks = m.blocks) (hl : m'.log = m.log) (hv : m'.votes = m.votes) (he : m'.enters = m.enters) : Inv2 m' := by
  have hbl : ∀ n, m'.block n = m.block n := fun n => by unfold Mem.block; rw [hb]
  refine ⟨by rw [hl]; exact up_blocks hb h.up, fun t ht => ?_, fun n => ?_, ⟨fun v => ?_⟩⟩
  · have := h.vs t (by rw [← hv]; exact ht)
    unfold Mem.vw at *
    rw [hbl]; exact this
  · have := h.vo n
    unfold Mem.votesFor at *
    rw [hv]; exact this
  · have := h.eo.e v
    unfold Mem.entered at *
    rw [he]; exact this
theorem inv2_new (id patience : Int) : Inv2 (Mem.new id patience) := ⟨trivial, (fun t ht => by cases ht), (fun n => rfl), ⟨fun v => rfl⟩⟩
theorem knows_same {m : Mem} {b : Blk} {n : Nat} (h : (m.block n).isSome = true) : (m.knows b).block n = m.block n := by
  obtain ⟨x, hx⟩ := Option.isSome_iff_exists.1 h
  rw [hx]; exact knows_keeps hx
theorem up_knows {m : Mem} {b : Blk} : ∀ {a : Nat} {l : List Nat}, (∀ n ∈ l, (m.block n).isSome = true) → Up m a l → Up (m.knows b) a l
  | _, [], _, _ => trivial
  | _, n :: r, hk, ⟨h1, h2⟩ => ⟨by rw [← h1]; unfold Mem.up; rw [knows_same (hk n (by simp))], up_knows (fun k h => hk k (List.mem_cons_of_mem _ h)) h2⟩
theorem knows_lists (m : Mem) (b : Blk) : (m.knows b).votes = m.votes ∧ (m.knows b).enters = m.enters ∧ (m.knows b).log = m.log := by
  unfold Mem.knows; split <;> exact ⟨rfl, rfl, rfl⟩
theorem inv2_knows {m : Mem} (h : Inv m) (h2 : Inv2 m) (b : Blk) : Inv2 (m.knows b) := by
  obtain ⟨e1, e2, e3⟩ := knows_lists m b
  refine ⟨by rw [e3]; exact up_knows (fun n hn => (h.lg n hn).2) h2.up, fun t ht => ?_, fun n => ?_, ⟨fun v => ?_⟩⟩
  · have := h2.vs t (by rw [← e1]; exact ht)
    unfold Mem.vw at *
    rw [knows_same this.1]; exact this
  · have := h2.vo n
    unfold Mem.votesFor at *
    rw [e1]; exact this
  · have := h2.eo.e v
    unfold Mem.entered at *
    rw [e2]; exact this
theorem inv2_learn {m : Mem} (h : Inv m) (h2 : Inv2 m) (c : Crt) (hc : Held m c) : Inv2 (m.learn c) := by
  have hk := learn_keeps m c
  have hbl : ∀ n, (m.learn c).block n = m.block n := fun n => by unfold Mem.block; rw [hk.b]
  have hup : Up (m.learn c) 0 (m.learn c).log := by
    obtain ⟨xs, hxs, _⟩ := ways_ex h.ch c.block
    obtain ⟨ys, hys, _⟩ := ways_ex h.ch (m.settles c.block xs).1
    have hmb := mid_blocks m c
    refine up_blocks hk.b ?_
    rw [learn_prog h h2.up c hc hxs hys]
    split
    · unfold Mem.pcommit
      split
      · rename_i hm
        show Up m 0 ((m.mid c).log ++ _)
        rw [up_append, hmb.2]
        have hl : (m.mid c).last = m.last := by unfold Mem.last; rw [hmb.2]
        rw [hl] at hm ⊢
        exact ⟨h2.up, up_take hys hm⟩
      · rw [hmb.2]; exact h2.up
    · rw [hmb.2]; exact h2.up
  refine ⟨hup, fun t ht => ?_, fun n => ?_, ⟨fun v => ?_⟩⟩
  · have := h2.vs t (by rw [← hk.vs]; exact ht)
    unfold Mem.vw at *
    rw [hbl]; exact this
  · have := h2.vo n
    unfold Mem.votesFor at *
    rw [hk.vs]; exact this
  · have := h2.eo.e v
    unfold Mem.entered at *
    rw [hk.es]; exact this
theorem inv2_enter {m : Mem} (h : Inv2 m) (v : Int) : Inv2 (m.enter v) := h.same rfl rfl rfl rfl
/-- A vote is taken. -/
def Mem.voted1 (m : Mem) (x : Msg) : Mem := { m with votes := m.votes ++ [⟨x.fro, x.view, x.number, x.sl⟩] }
/-- An Enter is taken. -/
def Mem.entered1 (m : Mem) (x : Msg) : Mem := { m with enters := m.enters ++ [⟨x.fro, x.view, 0, 0⟩] }
theorem votesFor1 (m : Mem) (x : Msg) (n : Nat) : (m.voted1 x).votesFor n = if n = x.number then m.votesFor n ++ [⟨x.fro, x.view, x.number, x.sl⟩] else m.votesFor n := by
  unfold Mem.votesFor Mem.voted1
  rw [List.filter_append]
  by_cases h : n = x.number
  · subst h; simp
  · rw [if_neg h]
    have : (x.number == n) = false := by simp; omega
    simp [this]
theorem entered1_is (m : Mem) (x : Msg) (v : Int) : (m.entered1 x).entered v = if v = x.view then m.entered v ++ [⟨x.fro, x.view, 0, 0⟩] else m.entered v := by
  unfold Mem.entered Mem.entered1
  rw [List.filter_append]
  by_cases h : v = x.view
  · subst h; simp
  · rw [if_neg h]
    have : (x.view == v) = false := by simp; omega
    simp [this]
theorem inv_voted1 {m : Mem} (h : Inv m) (x : Msg) (hx : 0 ≤ x.fro ∧ x.fro ≤ 3) : Inv (m.voted1 x) := h.same rfl rfl rfl rfl ⟨h.v0, h.v1⟩ ⟨h.t0, h.t1⟩ h.w0 h.hi h.lk h.qc h.ql (fun t ht => by
  rcases List.mem_append.1 ht with h4 | h4
  · exact h.vt t h4
  · simp at h4; subst h4; exact hx)
theorem inv_entered1 {m : Mem} (h : Inv m) (x : Msg) : Inv (m.entered1 x) := h.same rfl rfl rfl rfl ⟨h.v0, h.v1⟩ ⟨h.t0, h.t1⟩ h.w0 h.hi h.lk h.qc h.ql h.vt
theorem inv2_voted1 {m : Mem} (h2 : Inv2 m) (x : Msg) (hx : 0 ≤ x.fro ∧ x.fro ≤ 3) (hs : x.sl = sealOf x.fro 2 x.view x.number) (hb : ∃ b, m.block x.number = some b ∧ b.view = x.view) (hn : (m.votesFor x.number).any (fun t => t.fro == x.fro) = false) : Inv2 (m.voted1 x) := by
  obtain ⟨b, hb1, hb2⟩ := hb
  refine ⟨up_blocks (m := m) (m' := m.voted1 x) rfl h2.up, fun t ht => ?_, fun n => ?_, ⟨h2.eo.e⟩⟩
  · rcases List.mem_append.1 ht with h4 | h4
    · exact h2.vs t h4
    · simp at h4; subst h4
      refine ⟨by show (m.block x.number).isSome = true; rw [hb1]; rfl, ?_⟩
      have : (m.voted1 x).vw x.number = x.view := by
        show ((m.block x.number).getD Blk.zero).view = _
        rw [hb1]; exact hb2
      show x.sl = sealOf x.fro 2 ((m.voted1 x).vw x.number) x.number
      rw [this]; exact hs
  · rw [votesFor1]
    by_cases h : n = x.number
    · rw [if_pos h]
      subst h
      rw [rl_snoc, cnt_set hx.1 hx.2 (by rw [rl_at _ _ hx.1 hx.2]; exact hn), h2.vo]
      simp
    · rw [if_neg h]; exact h2.vo n
theorem inv2_entered1 {m : Mem} (h2 : Inv2 m) (x : Msg) (hx : 0 ≤ x.fro ∧ x.fro ≤ 3) (hn : (m.entered x.view).any (fun t => t.fro == x.fro) = false) : Inv2 (m.entered1 x) := by
  refine ⟨up_blocks (m := m) (m' := m.entered1 x) rfl h2.up, h2.vs, h2.vo, ⟨fun v => ?_⟩⟩
  rw [entered1_is]
  by_cases h : v = x.view
  · rw [if_pos h]
    subst h
    rw [rl_snoc, cnt_set hx.1 hx.2 (by rw [rl_at _ _ hx.1 hx.2]; exact hn), h2.eo.e]
    simp
  · rw [if_neg h]; exact h2.eo.e v
/-- The certificate that the votes make. -/
theorem vote_cert {m : Mem} (h : Inv m) (h2 : Inv2 m) (x : Msg) (hx : 0 ≤ x.fro ∧ x.fro ≤ 3) (hs : x.sl = sealOf x.fro 2 x.view x.number) (hb : ∃ b, m.block x.number = some b ∧ b.view = x.view) :
    ((m.votesFor x.number).foldl (fun (c : Crt) t => c.put t.fro t.sl) { Crt.zero with view := x.view, block := x.number }).put x.fro x.sl = ((rl (m.votesFor x.number)).set x.fro).crt x.view x.number := by
  obtain ⟨b, hb1, hb2⟩ := hb
  rw [crt_votes, hs, crt_set _ hx.1 hx.2]
  intro t ht
  obtain ⟨h3, h4⟩ := List.mem_filter.1 ht
  have h4 : t.n = x.number := by simpa using h4
  have h5 := h.vt t h3
  have h6 := (h2.vs t h3).2
  have h7 : m.vw t.n = x.view := by unfold Mem.vw; rw [h4, hb1]; exact hb2
  rw [h7, h4] at h6
  exact ⟨h5.1, h5.2, h6⟩
theorem held_vote {m : Mem} (x : Msg) (r : Rl) (hn : x.number < 18446744073709551616) (hv : 1 ≤ x.view ∧ x.view ≤ 999) (hb : ∃ b, m.block x.number = some b ∧ b.view = x.view) : Held m (r.crt x.view x.number) := by
  obtain ⟨b, hb1, hb2⟩ := hb
  exact ⟨by show 0 ≤ x.view; omega, ⟨by show -9223372036854775808 ≤ x.view; omega, by show x.view ≤ 9223372036854775807; omega, hn⟩, b, hb1, hb2⟩
theorem inv2_vote {m : Mem} (h : Inv m) (h2 : Inv2 m) (x : Msg) (hx : x.number < 18446744073709551616) : Inv2 (m.vote x).1 := by
  by_cases hf : m.faultV x = 0
  · obtain ⟨h1, h3, h4, h5, h6, h7⟩ := vote_fine hf
    rw [h7]
    dsimp only
    have hm2 := inv2_voted1 h2 x ⟨h1.1, h1.2.1⟩ h3 h4 h6
    have hm1 := inv_voted1 h x ⟨h1.1, h1.2.1⟩
    rw [vote_cert h h2 x ⟨h1.1, h1.2.1⟩ h3 h4]
    split
    · have hl := inv2_learn hm1 hm2 (((rl (m.votesFor x.number)).set x.fro).crt x.view x.number) (held_vote x _ hx ⟨h1.2.2.1, h1.2.2.2.1⟩ h4)
      split
      · exact inv2_enter hl _
      · exact hl
    · exact hm2
  · rw [vote_fault hf]; exact h2
theorem inv2_enters1 {m : Mem} (h : Inv m) (h2 : Inv2 m) (x : Msg) (hx : x.cert.Ok) : Inv2 (m.enters1 x).1 := by
  by_cases hf : m.faultE x = 0
  · obtain ⟨h1, h3, h4, h5, h6, h7⟩ := enter_fine hf
    rw [h7]
    dsimp only
    have hl := inv2_learn (inv_entered1 h x) (inv2_entered1 h2 x ⟨h1.1, h1.2.1⟩ h6) x.cert ⟨h3.1, hx, h4⟩
    split
    · exact inv2_enter hl _
    · exact hl
  · rw [enter_fault hf]; exact h2
theorem inv2_proposal {m : Mem} (h : Inv m) (h2 : Inv2 m) (x : Msg) (hx : x.block.Ok) : Inv2 (m.proposal x).1 := by
  by_cases hf : m.faultP x = 0
  · obtain ⟨h1, h3, h4, h5, h6, h7⟩ := prop_fine hf
    rw [h7]
    dsimp only
    have hh : Held m x.block.just := ⟨h3.1, hx.j, h4⟩
    have hk : Inv (m.knows x.block) := inv_knows h x.block hh ⟨by omega, by omega, hx, h1.2.2.2.2⟩
    have hl := inv2_learn hk (inv2_knows h h2 x.block) x.block.just (hh.of_blocks fun n b hb => knows_keeps hb)
    refine inv2_enter ?_ _
    split
    · exact hl.same rfl rfl rfl rfl
    · exact hl
  · rw [prop_fault hf]; exact h2
theorem inv2_takes {m : Mem} (h : Inv m) (h2 : Inv2 m) (x : Msg) (hx : x.Ok) : Inv2 (m.takes x).1 := by
  unfold Mem.takes
  split
  · exact inv2_proposal h h2 x hx.b
  · split
    · exact inv2_vote h h2 x hx.n
    · split
      · exact inv2_enters1 h h2 x hx.c
      · exact h2
theorem inv2_ends {m : Mem} (h : Inv m) (h2 : Inv2 m) : Inv2 m.ends.1 := by
  cases hm : m.may with
  | false => rw [ends_no hm]; exact h2
  | true =>
    rw [ends_yes hm]
    have hn : Inv m.noted := h.same rfl rfl rfl rfl ⟨h.v0, h.v1⟩ ⟨h.t0, h.t1⟩ h.w0 h.hi h.lk (fun c hc => h.qc c (List.mem_of_mem_tail hc)) (by show m.queue.tail.length ≤ 8; have := h.ql; rw [List.length_tail]; omega) h.vt
    exact inv2_knows hn (h2.same rfl rfl rfl rfl) m.next
theorem inv2_handle {m : Mem} (h : Inv m) (h2 : Inv2 m) (x : Msg) (hx : x.Ok) : Inv2 (m.handle x).1 := inv2_ends (inv_takes h x hx) (inv2_takes h h2 x hx)
theorem inv2_submit {m : Mem} (h2 : Inv2 m) (c : ByteArray) : Inv2 (m.submit c).1 := by
  unfold Mem.submit
  split
  · exact h2
  · split
    · exact h2
    · exact h2.same rfl rfl rfl rfl
theorem inv2_tick {m : Mem} (h : Inv m) (h2 : Inv2 m) : Inv2 m.tick.1 := by
  have hw : Inv2 m.wait.1 := by
    by_cases hc : m.patience ≤ m.waited + 1 ∧ m.view < 1000
    · rw [wait_yes hc]; exact h2.same rfl rfl rfl rfl
    · rw [wait_no hc]; exact h2.same rfl rfl rfl rfl
  exact inv2_ends (inv_wait h) hw
end Go.Proofs.YtkehpnobidendaaGreatDoor

namespace Go.Proofs.YtkehpnobidendaaGreatDoor
open Go.RowKit Go.Maps

/-- A store of High, of Locked. -/
theorem PMem.highs {w : World} {p : Nat} {S : Nat → Prop} {m : Mem} (h : PMem w p S m) (c : Crt) (hc : m.high.view ≤ c.view) : PMem ((((((w.setCell ⟨p, 5, none⟩ (.int .i64 c.view)).setCell ⟨p, 6, none⟩ (.int .u64 c.block)).setCell ⟨p, 7, none⟩ (.int .u64 c.s0)).setCell ⟨p, 8, none⟩ (.int .u64 c.s1)).setCell ⟨p, 9, none⟩ (.int .u64 c.s2)).setCell ⟨p, 10, none⟩ (.int .u64 c.s3)) p S { m with high := c } :=
  (((((h.set { m with high := { m.high with view := c.view } } 5 _ (fun _ _ _ _ _ => rfl) rfl rfl rfl rfl rfl (Int.le_refl _) hc).set { m with high := { m.high with view := c.view, block := c.block } } 6 _ (fun _ _ _ _ _ => rfl) rfl rfl rfl rfl rfl (Int.le_refl _) (Int.le_refl _)).set { m with high := { m.high with view := c.view, block := c.block, s0 := c.s0 } } 7 _ (fun _ _ _ _ _ => rfl) rfl rfl rfl rfl rfl (Int.le_refl _) (Int.le_refl _)).set { m with high := { m.high with view := c.view, block := c.block, s0 := c.s0, s1 := c.s1 } } 8 _ (fun _ _ _ _ _ => rfl) rfl rfl rfl rfl rfl (Int.le_refl _) (Int.le_refl _)).set { m with high := { m.high with view := c.view, block := c.block, s0 := c.s0, s1 := c.s1, s2 := c.s2 } } 9 _ (fun _ _ _ _ _ => rfl) rfl rfl rfl rfl rfl (Int.le_refl _) (Int.le_refl _)).set { m with high := c } 10 _ (fun _ _ _ _ _ => rfl) rfl rfl rfl rfl rfl (Int.le_refl _) (Int.le_refl _)
theorem PMem.locks {w : World} {p : Nat} {S : Nat → Prop} {m : Mem} (h : PMem w p S m) (c : Crt) : PMem ((((((w.setCell ⟨p, 11, none⟩ (.int .i64 c.view)).setCell ⟨p, 12, none⟩ (.int .u64 c.block)).setCell ⟨p, 13, none⟩ (.int .u64 c.s0)).setCell ⟨p, 14, none⟩ (.int .u64 c.s1)).setCell ⟨p, 15, none⟩ (.int .u64 c.s2)).setCell ⟨p, 16, none⟩ (.int .u64 c.s3)) p S { m with locked := c } :=
  (((((h.set { m with locked := { m.locked with view := c.view } } 11 _ (fun _ _ _ _ _ => rfl) rfl rfl rfl rfl rfl (Int.le_refl _) (Int.le_refl _)).set { m with locked := { m.locked with view := c.view, block := c.block } } 12 _ (fun _ _ _ _ _ => rfl) rfl rfl rfl rfl rfl (Int.le_refl _) (Int.le_refl _)).set { m with locked := { m.locked with view := c.view, block := c.block, s0 := c.s0 } } 13 _ (fun _ _ _ _ _ => rfl) rfl rfl rfl rfl rfl (Int.le_refl _) (Int.le_refl _)).set { m with locked := { m.locked with view := c.view, block := c.block, s0 := c.s0, s1 := c.s1 } } 14 _ (fun _ _ _ _ _ => rfl) rfl rfl rfl rfl rfl (Int.le_refl _) (Int.le_refl _)).set { m with locked := { m.locked with view := c.view, block := c.block, s0 := c.s0, s1 := c.s1, s2 := c.s2 } } 15 _ (fun _ _ _ _ _ => rfl) rfl rfl rfl rfl rfl (Int.le_refl _) (Int.le_refl _)).set { m with locked := c } 16 _ (fun _ _ _ _ _ => rfl) rfl rfl rfl rfl rfl (Int.le_refl _) (Int.le_refl _)
set_option maxRecDepth 100000 in
set_option maxHeartbeats 4000000 in
theorem plearn (w : World) (p : Nat) (S : Nat → Prop) (m : Mem) (h : PMem w p S m) (hi : Inv m) (hl : Up m 0 m.log) (c : Crt) (hc : Held m c) (hlog : m.log.length + m.blocks.length + 1 ≤ 1700000000000) :
    Calls Tryz.prog 96 #[.pointer (some ⟨p, 0, none⟩), .agg c.cells.toArray] w fun e w' => e = .returned (.tuple #[]) ∧ ∃ S', PMem w' p S' (m.learn c) ∧ Grow S w S' ∧ Fr S w w' := by
  have HM : Hid (PMem w p S m) := h
  have HLT : Hid (∀ k, S k → k < w.heap.size) := h.lt
  obtain ⟨xs, hxs, hxl⟩ := ways_ex hi.ch c.block
  obtain ⟨sn, sf, hst⟩ : ∃ sn sf, m.settles c.block xs = (sn, sf) := ⟨_, _, rfl⟩
  have hcb : c.block < 18446744073709551616 := hc.ok.b1
  have hsn : sn < 18446744073709551616 := by
    have e : sn = (m.settles c.block xs).1 := by rw [hst]
    rw [e]
    unfold Mem.settles
    split
    · split
      · rename_i y _ _; exact y.2
      · show 0 < _; omega
    · show 0 < _; omega
  obtain ⟨ys, hys, hyl⟩ := ways_ex hi.ch sn
  have HL : Hid (m.learn c = if sf = true then (m.mid c).pcommit sn (ys.map (·.1)) else m.mid c) := by
    have := learn_prog hi hl c hc hxs (ys := ys) (by rw [hst]; exact hys)
    rw [hst] at this
    exact this
  have hmb := mid_blocks m c
  have him := inv_mid hi c hc
  have HSB : Hid (∀ W, PMem W p S (m.mid c) → Calls Tryz.prog 113 #[.pointer (some ⟨p, 0, none⟩), .int .u64 c.block] W fun e w' => e = .returned (.tuple #[.int .u64 sn, .bool sf]) ∧ Below W.heap.size W w') := fun W hW => by
    have := psettled W p S (m.mid c) hW him.ch c.block hcb xs (ways_blocks hmb.1 hxs)
    rw [settles_blocks hmb.1, hst] at this
    exact this
  have HCO : Hid (∀ W, PMem W p S (m.mid c) → Calls Tryz.prog 114 #[.pointer (some ⟨p, 0, none⟩), .int .u64 sn] W fun e w' => e = .returned (.tuple #[]) ∧ ∃ S', PMem w' p S' ((m.mid c).pcommit sn (ys.map (·.1))) ∧ Grow S W S' ∧ Fr S W w') := fun W hW =>
    pcommit W p S (m.mid c) hW sn hsn ys (ways_blocks hmb.1 hys) (by rw [hmb.2]; omega)
  have HFG : Hid (∀ W, PMem W p S (m.high1 c) → Calls Tryz.prog 73 #[.pointer (some ⟨p, 0, none⟩)] W fun e w' => e = .returned (.tuple #[]) ∧ PMem w' p S (m.high1 c) ∧ Fr S W w') := fun W hW => by
    have e : (m.high1 c).view = m.view := by unfold Mem.high1; split <;> rfl
    exact pforget W p S (m.high1 c) hW (by rw [e]; have := hi.v0; omega) (by rw [e]; exact hi.v1)
  obtain ⟨Rm, hRm⟩ : ∃ r, r = m.learn c := ⟨_, rfl⟩
  rw [← hRm] at HL ⊢
  clear hRm h hi hl hc hlog hxs hxl hst hys hyl hmb him hsn
  have hcw := wf_u64 hcb
  have HK : Hid ((m.high1 c).block c.block = m.block c.block) := by show _ = _; unfold Mem.block; rw [(high1_blocks m c).1]
  have HMI : Hid (m.mid c = (m.high1 c).lock1 ((m.block c.block).getD Blk.zero)) := rfl
  have HH : Hid (m.high.view < c.view → m.high1 c = { m with high := c }) := fun hv => by unfold Mem.high1; rw [if_pos hv]
  have HH2 : Hid (¬ m.high.view < c.view → m.high1 c = m) := fun hv => by unfold Mem.high1; rw [if_neg hv]
  obtain ⟨mm, hmm⟩ : ∃ r, r = m.mid c := ⟨_, rfl⟩
  rw [← hmm] at HL HSB HCO HMI
  clear hmm
  obtain ⟨m1, hm1⟩ : ∃ r, r = m.high1 c := ⟨_, rfl⟩
  rw [← hm1] at HFG HK HMI HH HH2
  clear hm1
  obtain ⟨cv, cb, k0, k1, k2, k3⟩ := c
  dsimp only [Crt.cells] at *
  go_enter Tryz.func96, Tryz.ntmps96
  go_upto_region 1 with fail
  have HX : Hid ((w.alloc (.cells #[.int .i64 cv, .int .u64 cb, .int .u64 k0, .int .u64 k1, .int .u64 k2, .int .u64 k3] 39)).heap[w.heap.size]? = some (.cells #[.int .i64 cv, .int .u64 cb, .int .u64 k0, .int .u64 k1, .int .u64 k2, .int .u64 k3] 39 (0, 0))) := heap_alloc_new w _
  have HM0 : Hid (PMem (w.alloc (.cells #[.int .i64 cv, .int .u64 cb, .int .u64 k0, .int .u64 k1, .int .u64 k2, .int .u64 k3] 39)) p S m) := HM.out.alloc _
  have HF0 : Hid (Fr S w (w.alloc (.cells #[.int .i64 cv, .int .u64 cb, .int .u64 k0, .int .u64 k1, .int .u64 k2, .int .u64 k3] 39))) := Fr.alloc _ _ _
  have HNS : Hid (¬ S w.heap.size) := fun h => by have := HLT.out _ h; omega
  generalize w.alloc (.cells #[.int .i64 cv, .int .u64 cb, .int .u64 k0, .int .u64 k1, .int .u64 k2, .int .u64 k3] 39) = W0 at *
  have hA : ∀ j : Nat, W0.cell? ⟨w.heap.size, j, none⟩ = (#[.int .i64 cv, .int .u64 cb, .int .u64 k0, .int .u64 k1, .int .u64 k2, .int .u64 k3] : Array Value)[j]? := fun j => cell_at HX.out j
  have hs := HM0.out.see
  have c5 := hs.c5
  have c6 := hs.c6
  have c7 := hs.c7
  have c8 := hs.c8
  have c9 := hs.c9
  have c10 := hs.c10
  have fz := hs.fz
  clear hs
  go_quiet (fail)
  go_upto_if 14 with fail
  go_cut [] (fun w' => Hid (PMem w' p S m1) ∧ Hid (w'.heap[w.heap.size]? = some (.cells #[.int .i64 cv, .int .u64 cb, .int .u64 k0, .int .u64 k1, .int .u64 k2, .int .u64 k3] 39 (0, 0))) ∧ Hid (Fr S w w'))
  case first =>
    by_cases hv : m.high.view < cv
    · have e := HH.out hv
      have HPF : Hid (PMem ((((((((W0.drewN nq).setCell ⟨p, 5, none⟩ (.int .i64 cv)).setCell ⟨p, 6, none⟩ (.int .u64 cb)).setCell ⟨p, 7, none⟩ (.int .u64 k0)).setCell ⟨p, 8, none⟩ (.int .u64 k1)).setCell ⟨p, 9, none⟩ (.int .u64 k2)).setCell ⟨p, 10, none⟩ (.int .u64 k3))) p S m1) := by
        rw [e]; exact (HM0.out.heap (w' := W0.drewN nq) rfl).highs ⟨cv, cb, k0, k1, k2, k3⟩ (Int.le_of_lt hv)
      have HF1 : Hid (Fr S W0 ((((((((W0.drewN nq).setCell ⟨p, 5, none⟩ (.int .i64 cv)).setCell ⟨p, 6, none⟩ (.int .u64 cb)).setCell ⟨p, 7, none⟩ (.int .u64 k0)).setCell ⟨p, 8, none⟩ (.int .u64 k1)).setCell ⟨p, 9, none⟩ (.int .u64 k2)).setCell ⟨p, 10, none⟩ (.int .u64 k3)))) := (Fr.drewN S W0 nq).trans (fr_set6 (S := S) HM.out.sp 5 (.int .i64 cv) (.int .u64 cb) (.int .u64 k0) (.int .u64 k1) (.int .u64 k2) (.int .u64 k3)) (fun _ h => .inl h)
      clear e
      go_wp2_with (go_at_call 73; refine (HFG.out _ HPF.out).mono ?_; rintro e w1 ⟨rfl, hp1, hf1⟩)
      go_meet
      case rel =>
        have hf2 := HF1.out.trans hf1 (fun _ h => .inl h)
        exact ⟨hp1, hf2.box HX.out HNS.out, HF0.out.trans hf2 (fun _ h => .inl h)⟩
    · have e := HH2.out hv
      clear HFG HH
      go_wp2
      go_meet
      case rel =>
        rw [e]
        exact ⟨HM0.out.heap rfl, HX.out, HF0.out.trans (Fr.drewN S W0 nq) (fun _ h => .inl h)⟩
  case rest =>
    obtain ⟨hM1, hX1, hF1⟩ := hcut
    obtain ⟨wa, rfl⟩ : ∃ wa, wa = wc := ⟨_, rfl⟩
    clear hA c5 c6 c7 c8 c9 c10 fz HX HM0 HF0 HFG HH HH2
    obtain ⟨vq, vl, bb, bv, bw, g1, g2⟩ := hM1.out.ex
    obtain ⟨nn, hnn, mb⟩ := g2.mb
    have c19 : wa.cell? ⟨p, 19, none⟩ = some (.map (some bb)) := cell_at g1.box 19
    have lp := lt_at g1.box
    have ls := lt_at hX1.out
    have hA : ∀ j : Nat, wa.cell? ⟨w.heap.size, j, none⟩ = (#[.int .i64 cv, .int .u64 cb, .int .u64 k0, .int .u64 k1, .int .u64 k2, .int .u64 k3] : Array Value)[j]? := fun j => cell_at hX1.out j
    obtain ⟨⟨qv, ⟨qjv, qjb, q0, q1, q2, q3⟩, qc⟩, hq⟩ : ∃ y, y = (m.block cb).getD Blk.zero := ⟨_, rfl⟩
    rw [← hq] at HMI
    have hlk : ∀ W, Below wa.heap.size wa W → (Instr.lookup 78 (.map (some bb)) (.int .u64 cb) false).run Tryz.prog W = .ok (.agg #[.int .i64 qv, .int .i64 qjv, .int .u64 qjb, .int .u64 q0, .int .u64 q1, .int .u64 q2, .int .u64 q3, .string qc]) W := fun W hW => by
      have := (mb.below hW).look Tryz.underlying36 Tryz.underlying78 (zero_blk _) ⟨_, rfl⟩ cb hcw
      rw [bmap_get] at this
      rw [show (m1.block cb).getD Blk.zero = (m.block cb).getD Blk.zero by rw [HK.out], ← hq] at this
      exact this
    have hlk1 := hlk wa.drew (Below.refl _ _).drew
    have hlk2 := hlk (wa.alloc (.cells #[.int .i64 0, .int .u64 0, .int .u64 0, .int .u64 0, .int .u64 0, .int .u64 0] 39)).drew (below_alloc _ _).drew
    have hfd := fld_just
    clear hlk g1 g2 mb HK hq
    go_upto_region 4 with fail
    go_cut [4] (fun s w' => s = .pointer (some ⟨wa.heap.size, 0, none⟩) ∧ w' = (wa.alloc (.cells #[.int .i64 qjv, .int .u64 qjb, .int .u64 q0, .int .u64 q1, .int .u64 q2, .int .u64 q3] 39)).drew)
    case first =>
      go_region
      all_goals (
        go_wp2
        go_meet
        case rel => exact ⟨rfl, rfl⟩)
    case rest =>
      obtain ⟨rfl, hwc⟩ := hcut
      have hBa : Below wa.heap.size wa wc := by rw [hwc]; exact (below_alloc _ _).drew
      have HXj : Hid (wc.heap[wa.heap.size]? = some (.cells #[.int .i64 qjv, .int .u64 qjb, .int .u64 q0, .int .u64 q1, .int .u64 q2, .int .u64 q3] 39 (0, 0))) := by rw [hwc]; exact heap_alloc_new wa _
      have HXc : Hid (wc.heap[w.heap.size]? = some (.cells #[.int .i64 cv, .int .u64 cb, .int .u64 k0, .int .u64 k1, .int .u64 k2, .int .u64 k3] 39 (0, 0))) := (hBa.block _ ls).trans hX1.out
      have HMb : Hid (PMem wc p S m1) := hM1.out.below hBa
      have HFb : Hid (Fr S w wc) := hF1.out.trans (Fr.of_below hBa) (fun _ h => .inl h)
      have HNb : Hid (¬ S wa.heap.size) := fun h => by have := hM1.out.lt _ h; omega
      clear hwc hBa hX1 hM1 hF1 hA hlk1 hlk2 hfd c19 lp ls
      have hA : ∀ j : Nat, wc.cell? ⟨wa.heap.size, j, none⟩ = (#[.int .i64 qjv, .int .u64 qjb, .int .u64 q0, .int .u64 q1, .int .u64 q2, .int .u64 q3] : Array Value)[j]? := fun j => cell_at HXj.out j
      have hs := HMb.out.see
      have c5 := hs.c11
      have c6 := hs.c12
      have c7 := hs.c13
      have c8 := hs.c14
      have c9 := hs.c15
      have c10 := hs.c16
      have fz := hs.fz
      clear hs
      go_upto_region 5 with fail
      go_quiet (fail)
      go_upto_if 36 with fail
      obtain ⟨wb, rfl⟩ : ∃ wb, wb = wc := ⟨_, rfl⟩
      go_cut [] (fun w' => Hid (PMem w' p S mm) ∧ Hid (w'.heap[w.heap.size]? = some (.cells #[.int .i64 cv, .int .u64 cb, .int .u64 k0, .int .u64 k1, .int .u64 k2, .int .u64 k3] 39 (0, 0))) ∧ Hid (Fr S w w'))
      case first =>
        by_cases hv : m1.locked.view < qjv
        · go_wp2
          go_meet
          case rel =>
            have e : mm = { m1 with locked := ⟨qjv, qjb, q0, q1, q2, q3⟩ } := by rw [HMI.out]; unfold Mem.lock1; rw [if_pos hv]
            have hf0 : Fr S wb _ := (Fr.drewN S wb nq).trans (fr_set6 (S := S) HMb.out.sp 11 (.int .i64 qjv) (.int .u64 qjb) (.int .u64 q0) (.int .u64 q1) (.int .u64 q2) (.int .u64 q3)) (fun _ h => .inl h)
            rw [e]
            exact ⟨(HMb.out.heap (w' := wb.drewN nq) rfl).locks ⟨qjv, qjb, q0, q1, q2, q3⟩, hf0.box HXc.out HNS.out, HFb.out.trans hf0 (fun _ h => .inl h)⟩
        · go_wp2
          go_meet
          case rel =>
            have e : mm = m1 := by rw [HMI.out]; unfold Mem.lock1; rw [if_neg (by show ¬ m1.locked.view < qjv; omega)]
            rw [e]
            exact ⟨HMb.out.heap rfl, HXc.out, HFb.out.trans (Fr.drewN S wb nq) (fun _ h => .inl h)⟩
      case rest =>
        obtain ⟨hM2, hX2, hF2⟩ := hcut
        clear hA c5 c6 c7 c8 c9 c10 fz HXj HXc HMb HFb HNb HMI
        have hc1 : wc.cell? ⟨w.heap.size, 1, none⟩ = some (.int .u64 cb) := cell_at hX2.out 1
        cases sf
        · have hR : Rm = mm := by rw [HL.out]; simp
          go_wp2_with (go_at_call 113; refine (HSB.out _ hM2.out).mono ?_; rintro e w5 ⟨rfl, hb5⟩)
          go_end0
          rw [hR]
          exact ⟨rfl, S, hM2.out.below hb5, Grow.refl _ _, hF2.out.trans (Fr.of_below hb5) (fun _ h => .inl h)⟩
        · have hR : Rm = mm.pcommit sn (ys.map (·.1)) := by rw [HL.out]; simp
          have HR : Hid (Rm = mm.pcommit sn (ys.map (·.1))) := hR
          clear hR HL
          go_wp2_with (first
            | (go_at_call 113; refine (HSB.out _ hM2.out).mono ?_; rintro e w5 ⟨rfl, hb5⟩; have hM5 := hM2.out.below hb5; have HM5 : Hid (PMem w5 p S mm) := hM5; clear hM5; have HB5 : Hid (Below wc.heap.size wc w5) := hb5; clear hb5)
            | (go_at_call 114; refine (HCO.out _ HM5.out).mono ?_; rintro e w6 ⟨rfl, S', hp6, hg6, hf6⟩))
          go_end0
          rw [HR.out]
          have hf5 : Fr S w w5 := hF2.out.trans (Fr.of_below HB5.out) (fun _ h => .inl h)
          exact ⟨rfl, S', hp6, fun k hk => (hg6 k hk).elim .inl (fun h => .inr (Nat.le_trans hf5.size h)), hf5.trans hf6 (fun _ h => .inl h)⟩
end Go.Proofs.YtkehpnobidendaaGreatDoor

namespace Go.Proofs.YtkehpnobidendaaGreatDoor
open Go.RowKit Go.Maps

theorem pload_msg (a : Addr) : loadVar 43 a = rowVar 43 a := rfl
attribute [local go_sem ↓] pload_msg
/-- The maps, when a vote is taken. -/
theorem PMaps.voted {w w1 : World} {S : Nat → Prop} {bb bv bw : Nat} {m : Mem} (h : PMaps w S bb bv bw m) (x : Msg) (hb : (m.block x.number).isSome = true) (hf : Fr (fun j => j = bv) w w1) {n : Nat} {f : Int → Option Value} (hn : n ≤ m.votes.length) (hV : VOk m f) (hi : IMap Tryz.prog 36 .u64 isRoll w1 bv (n + 1) (putAt f x.number (rollV ((rl (m.votesFor x.number)).set x.fro)))) : PMaps w1 S bb bv bw (m.voted1 x) := by
  have hl := h.lts
  refine ⟨h.sb, h.sv, h.sw, h.n1, h.n2, h.n3, ?_, ⟨n + 1, _, by show n + 1 ≤ (m.votes ++ [_]).length; simp; omega, hi, ⟨fun k hk => ?_, fun k hk => ?_⟩⟩, ?_⟩
  · obtain ⟨k, hk, hb⟩ := h.mb
    exact ⟨k, hk, hb.same (hf.block bb hl.1 h.n1)⟩
  · unfold putAt
    rw [votesFor1]
    by_cases hkn : k = x.number
    · subst hkn
      rw [if_pos rfl, if_pos rfl, rl_snoc]
      rfl
    · rw [if_neg (by omega), if_neg hkn]
      exact hV.ok k hk
  · have hkn : k ≠ x.number := fun e => by
      have hk' : m.block k = none := hk
      rw [e] at hk'
      rw [hk'] at hb
      cases hb
    rw [votesFor1, if_neg hkn]
    unfold putAt
    rw [if_neg (by omega)]
    exact hV.un k hk
  · obtain ⟨k, g, hk, hb, o⟩ := h.mw
    exact ⟨k, g, hk, hb.same (hf.block bw hl.2.2 (fun e => h.n3 e.symm)), ⟨o.ok⟩⟩
set_option maxRecDepth 100000 in
set_option maxHeartbeats 4000000 in
theorem ptakeVote (w : World) (p : Nat) (S : Nat → Prop) (m : Mem) (h : PMem w p S m) (hi : Inv m) (h2 : Inv2 m) (x : Msg) (hx : x.number < 18446744073709551616) (hlog : m.log.length + m.blocks.length + 1 ≤ 1700000000000) (hvl : m.votes.length ≤ 1700000000000) :
    Calls Tryz.prog 78 #[.pointer (some ⟨p, 0, none⟩), .agg x.cells.toArray] w fun e w' => e = .returned (.int .i64 (m.vote x).2) ∧ ∃ S', PMem w' p S' (m.vote x).1 ∧ Grow S w S' ∧ Fr S w w' := by
  obtain ⟨W0, hW0⟩ : ∃ W, W = w.alloc (.cells x.cells.toArray 43) := ⟨_, rfl⟩
  have HB0 : Hid (Below w.heap.size w W0) := by rw [hW0]; exact below_alloc _ _
  have HX0 : Hid (W0.heap[w.heap.size]? = some (.cells x.cells.toArray 43 (0, 0))) := by rw [hW0]; exact heap_alloc_new _ _
  have hld : (rowVar 43 ⟨w.heap.size, 0, none⟩).run Tryz.prog W0 = .ok (.agg x.cells.toArray) W0 := rowVar_whole W0 w.heap.size 43 43 x.cells.toArray (0, 0) _ HX0.out Tryz.underlying43 rfl (by kernel_rfl)
  have HFV : Hid (Calls Tryz.prog 99 #[.pointer (some ⟨p, 0, none⟩), .agg x.cells.toArray] W0 fun e w' => e = .returned (.int .i64 (m.faultV x)) ∧ Below W0.heap.size W0 w') := pfaultV W0 p S m (h.below HB0.out) hi x hx
  have HP : Hid (PMem w p S m) := h
  by_cases hf : m.faultV x = 0
  · obtain ⟨h1, h3, h4, h5, h6, h7⟩ := vote_fine hf
    rw [vote_cert hi h2 x ⟨h1.1, h1.2.1⟩ h3 h4] at h7
    have hne : ((0 : Int) != 0) = false := rfl
    rw [hf] at HFV
    have hbs : (m.block x.number).isSome = true := by obtain ⟨b, hb, _⟩ := h4; rw [hb]; rfl
    have hvw : m.vw x.number = x.view := by obtain ⟨b, hb, hbv⟩ := h4; unfold Mem.vw; rw [hb]; exact hbv
    have hm1 := inv_voted1 hi x ⟨h1.1, h1.2.1⟩
    have hm2 := inv2_voted1 h2 x ⟨h1.1, h1.2.1⟩ h3 h4 h6
    obtain ⟨rr, hrr⟩ : ∃ r, r = rl (m.votesFor x.number) := ⟨_, rfl⟩
    have hcnt : (rr.set x.fro).cnt = (m.votesFor x.number).length + 1 := by rw [hrr, cnt_set h1.1 h1.2.1 (by rw [rl_at _ _ h1.1 h1.2.1]; exact h6), h2.vo]
    rw [← hrr, ← hcnt] at h7
    have hheld : Held (m.voted1 x) ((rr.set x.fro).crt x.view x.number) := held_vote x _ hx ⟨h1.2.2.1, h1.2.2.2.1⟩ h4
    have HLE : Hid (∀ W, PMem W p S (m.voted1 x) → Calls Tryz.prog 96 #[.pointer (some ⟨p, 0, none⟩), .agg ((rr.set x.fro).crt x.view x.number).cells.toArray] W fun e w' => e = .returned (.tuple #[]) ∧ ∃ S', PMem w' p S' ((m.voted1 x).learn ((rr.set x.fro).crt x.view x.number)) ∧ Grow S W S' ∧ Fr S W w') := fun W hW => plearn W p S (m.voted1 x) hW hm1 hm2.up _ hheld hlog
    have hlv := (learn_keeps (m.voted1 x) ((rr.set x.fro).crt x.view x.number)).v
    have HR : Hid (m.vote x = if 3 ≤ (rr.set x.fro).cnt then (if m.view ≤ x.view then ((m.voted1 x).learn ((rr.set x.fro).crt x.view x.number)).enter (x.view + 1) else (m.voted1 x).learn ((rr.set x.fro).crt x.view x.number), 0) else (m.voted1 x, 0)) := by
      show _ = _
      rw [h7]
      have e : ((m.voted1 x).learn ((rr.set x.fro).crt x.view x.number)).view = m.view := hlv
      show (if 3 ≤ (rr.set x.fro).cnt then (if ((m.voted1 x).learn ((rr.set x.fro).crt x.view x.number)).view ≤ x.view then ((m.voted1 x).learn ((rr.set x.fro).crt x.view x.number)).enter (x.view + 1) else (m.voted1 x).learn ((rr.set x.fro).crt x.view x.number), 0) else (m.voted1 x, 0)) = _
      rw [e]
    have HEN : Hid (∀ W S', m.view ≤ x.view → PMem W p S' ((m.voted1 x).learn ((rr.set x.fro).crt x.view x.number)) → Calls Tryz.prog 57 #[.pointer (some ⟨p, 0, none⟩), .int .i64 (x.view + 1)] W fun e w' => e = .returned (.tuple #[]) ∧ PMem w' p S' (((m.voted1 x).learn ((rr.set x.fro).crt x.view x.number)).enter (x.view + 1)) ∧ Fr S' W w') := fun W S' hv hW => penter W p S' _ hW (x.view + 1) (by omega) (by omega) (by rw [hlv]; show m.view ≤ x.view + 1; omega)
    have HCE : Hid (∀ W, Tab W → Calls Tryz.prog 100 #[.int .i64 x.view, .int .u64 x.number, rollV (rr.set x.fro)] W fun e w' => e = .returned (.agg ((rr.set x.fro).crt x.view x.number).cells.toArray) ∧ Below W.heap.size W w') := fun W hW => pcertOf W x.view x.number (rr.set x.fro) (by omega) (by omega) hx hW
    have HFU : Hid (∀ W, Calls Tryz.prog 75 #[rollV (rr.set x.fro)] W fun e w' => e = .returned (.bool (decide (3 ≤ (rr.set x.fro).cnt))) ∧ Below W.heap.size W w') := fun W => pfull W (rr.set x.fro)
    have HLV : Hid (∀ W S', PMem W p S' ((m.voted1 x).learn ((rr.set x.fro).crt x.view x.number)) → W.cell? ⟨p, 2, none⟩ = some (.int .i64 m.view)) := fun W S' hW => by
      have e : ((m.voted1 x).learn ((rr.set x.fro).crt x.view x.number)).view = m.view := hlv
      rw [← e]; exact hW.see.c2
    obtain ⟨vq, vl, bb, bv', bw, g1, g2⟩ := h.ex
    obtain ⟨nv, fv, hnv, mv, ov⟩ := g2.mv
    have hroll : (fv x.number).getD (rollV Rl.none) = rollV rr := by rw [hrr]; exact ov.ok x.number (by rw [hvw]; exact h5)
    have HMV : Hid (∀ W, Below w.heap.size w W → IMap Tryz.prog 36 .u64 isRoll W bv' nv fv) := fun W hW => mv.below hW
    have HC : Hid (∀ W, Below w.heap.size w W → W.cell? ⟨p, 20, none⟩ = some (.map (some bv'))) := fun W hW => (hW.cell (p := ⟨p, 20, none⟩) h.see.lt).trans (cell_at g1.box 20)
    have HPS : Hid (∀ (W2 W3 : World), Below w.heap.size w W2 → IMap Tryz.prog 36 .u64 isRoll W3 bv' (nv + 1) (putAt fv x.number (rollV (rr.set x.fro))) → Fr (fun j => j = bv') W2 W3 → PMem W3 p S (m.voted1 x) ∧ Fr S w W3) := fun W2 W3 hb hI hF => by
      have hg1 := g1.below hb
      have hg3 : PMaps W2 S bb bv' bw m := g2.same (fun k hk _ => hb.block k (g1.lt k hk)) (fun _ h => h)
      rw [hrr] at hI
      exact ⟨PMem.stored hg1 hg3 (.inr (.inl rfl)) (h.below hb).tab h.t0 hF rfl rfl (hg3.voted x hbs hF hnv ov hI), (Fr.of_below (S := S) hb).trans (hF.mono (S' := S) (fun i hi => by rw [hi]; exact g2.sv)) (fun _ h => .inl h)⟩
    have lp := h.see.lt
    have hxf : 0 ≤ x.fro ∧ x.fro ≤ 3 := ⟨h1.1, h1.2.1⟩
    have hxv : 1 ≤ x.view ∧ x.view ≤ 999 := ⟨h1.2.2.1, h1.2.2.2.1⟩
    clear hf h1 h3 h4 h5 h6 h7 hbs hvw hm1 hm2 hrr hcnt hheld hlv g1 g2 ov mv h hi h2 hlog
    obtain ⟨rs, hrs⟩ : ∃ r, r = rr.set x.fro := ⟨_, rfl⟩
    rw [← hrs] at HLE HR HEN HCE HFU HLV HPS
    obtain ⟨cr, hcr⟩ : ∃ c, c = rs.crt x.view x.number := ⟨_, rfl⟩
    rw [← hcr] at HLE HR HEN HCE HLV
    obtain ⟨m1, hm1⟩ : ∃ y, y = m.voted1 x := ⟨_, rfl⟩
    rw [← hm1] at HLE HR HEN HLV HPS
    obtain ⟨m2, hm2⟩ : ∃ y, y = m1.learn cr := ⟨_, rfl⟩
    rw [← hm2] at HLE HR HEN HLV
    obtain ⟨RR, hRR⟩ : ∃ y, y = m.vote x := ⟨_, rfl⟩
    rw [← hRR] at HR ⊢
    clear hRR hm2 hm1 hcr
    obtain ⟨xk, xf, xv, ⟨bv, ⟨jv, jb, j0, j1, j2, j3⟩, bc⟩, nu, ⟨cv, cb, k0, k1, k2, k3⟩, sl⟩ := x
    dsimp only [Msg.cells] at *
    obtain ⟨ra, rb, rc, rd⟩ := rr
    obtain ⟨sa, sb, sc, sd⟩ := rs
    obtain ⟨qv, qb, q0, q1, q2, q3⟩ := cr
    dsimp only [rollV, Crt.cells, Rl.none] at hroll HCE HFU HPS HLE
    go_enter Tryz.func78, Tryz.ntmps78
    go_upto_region 1 with fail
    rw [← hW0]
    clear hW0
    go_upto_region 4 with (go_at_call 99; refine HFV.out.mono ?_; rintro e w1 ⟨rfl, hb1⟩)
    have hB1 : Below w.heap.size w w1 := bnext HB0.out hb1
    have HX1 : Hid (w1.heap[w.heap.size]? = some (.cells #[.int .i64 xk, .int .i64 xf, .int .i64 xv, .int .i64 bv, .int .i64 jv, .int .u64 jb, .int .u64 j0, .int .u64 j1, .int .u64 j2, .int .u64 j3, .string bc, .int .u64 nu, .int .i64 cv, .int .u64 cb, .int .u64 k0, .int .u64 k1, .int .u64 k2, .int .u64 k3, .int .u64 sl] 43 (0, 0))) := (hb1.block _ (lt_at HX0.out)).trans HX0.out
    have HB1 : Hid (Below w.heap.size w w1) := hB1
    clear hb1 HFV HX0 HB0 hld
    have d20 := HC.out w1 hB1
    have d11 : w1.cell? ⟨w.heap.size, 11, none⟩ = some (.int .u64 nu) := cell_at HX1.out 11
    have lx := lt_at HX1.out
    have lp1 : p < w1.heap.size := Nat.lt_of_lt_of_le lp hB1.size
    have hlk : ∀ W, Below w.heap.size w W → (Instr.lookup 79 (.map (some bv')) (.int .u64 nu) false).run Tryz.prog W = .ok (.agg #[.bool ra, .bool rb, .bool rc, .bool rd]) W := fun W hW => by
      have := (HMV.out W hW).look Tryz.underlying36 Tryz.underlying79 (zero_roll _) ⟨_, rfl⟩ nu (wf_u64 hx)
      rw [show rollV Rl.none = .agg #[.bool false, .bool false, .bool false, .bool false] from rfl, hroll] at this
      exact this
    have hlk1 := hlk w1.drew hB1.drew
    have hlk2 := hlk (w1.alloc (.cells #[.bool false, .bool false, .bool false, .bool false] 119)).drew (bnext hB1 (below_alloc _ _)).drew
    clear hlk hroll hB1
    go_cut [6] (fun s w' => s = .pointer (some ⟨w1.heap.size, 0, none⟩) ∧ w' = (w1.alloc (.cells #[.bool ra, .bool rb, .bool rc, .bool rd] 119)).drew)
    case first =>
      go_region
      all_goals (
        go_wp2
        go_meet
        case rel => exact ⟨rfl, rfl⟩)
    case rest =>
      obtain ⟨rfl, hwc⟩ := hcut
      obtain ⟨wa, rfl⟩ : ∃ wa, wa = wc := ⟨_, rfl⟩
      have hBa : Below w1.heap.size w1 wa := by rw [hwc]; exact (below_alloc _ _).drew
      have HXr : Hid (wa.heap[w1.heap.size]? = some (.cells #[.bool ra, .bool rb, .bool rc, .bool rd] 119 (0, 0))) := by rw [hwc]; exact heap_alloc_new w1 _
      have HXa : Hid (wa.heap[w.heap.size]? = some (.cells #[.int .i64 xk, .int .i64 xf, .int .i64 xv, .int .i64 bv, .int .i64 jv, .int .u64 jb, .int .u64 j0, .int .u64 j1, .int .u64 j2, .int .u64 j3, .string bc, .int .u64 nu, .int .i64 cv, .int .u64 cb, .int .u64 k0, .int .u64 k1, .int .u64 k2, .int .u64 k3, .int .u64 sl] 43 (0, 0))) := (hBa.block _ lx).trans HX1.out
      have HBa : Hid (Below w.heap.size w wa) := bnext HB1.out hBa
      have HLX : Hid (w.heap.size < w1.heap.size) := lx
      have HLW : Hid (w.heap.size ≤ w1.heap.size) := HB1.out.size
      clear hwc hBa HX1 HB1 d20 d11 lx lp1 hlk1 hlk2
      have a1 : wa.cell? ⟨w.heap.size, 1, none⟩ = some (.int .i64 xf) := cell_at HXa.out 1
      have fr := free_at HXr.out
      have r0 := cell_at HXr.out 0
      have r1 := cell_at HXr.out 1
      have r2 := cell_at HXr.out 2
      have r3 := cell_at HXr.out 3
      simp at r0 r1 r2 r3
      go_upto_region 5 with fail
      go_cut [] (fun w' => Hid (Below w.heap.size w w') ∧ Hid (w'.heap[w1.heap.size]? = some (.cells #[.bool sa, .bool sb, .bool sc, .bool sd] 119 (0, 0))) ∧ Hid (w'.heap[w.heap.size]? = some (.cells #[.int .i64 xk, .int .i64 xf, .int .i64 xv, .int .i64 bv, .int .i64 jv, .int .u64 jb, .int .u64 j0, .int .u64 j1, .int .u64 j2, .int .u64 j3, .string bc, .int .u64 nu, .int .i64 cv, .int .u64 cb, .int .u64 k0, .int .u64 k1, .int .u64 k2, .int .u64 k3, .int .u64 sl] 43 (0, 0))))
      case first =>
        have HRS : Hid ((⟨sa, sb, sc, sd⟩ : Rl) = (⟨ra, rb, rc, rd⟩ : Rl).set xf) := hrs
        clear hrs
        rcases (by omega : xf = 0 ∨ xf = 1 ∨ xf = 2 ∨ xf = 3) with hxe | hxe | hxe | hxe
        · have hq := HRS.out
          rw [hxe] at hq
          simp [Rl.set] at hq
          obtain ⟨rfl, rfl, rfl, rfl⟩ := hq
          subst hxe
          go_wp2
          go_meet
          case rel => exact ⟨HBa.out.setCell (p := ⟨w1.heap.size, 0, none⟩) HLW.out _, heap_store HXr.out (i := 0) _, (heap_store_ne _ (by have := HLX.out; omega)).trans HXa.out⟩
        · have hq := HRS.out
          rw [hxe] at hq
          simp [Rl.set] at hq
          obtain ⟨rfl, rfl, rfl, rfl⟩ := hq
          subst hxe
          go_wp2
          go_meet
          case rel => exact ⟨HBa.out.setCell (p := ⟨w1.heap.size, 1, none⟩) HLW.out _, heap_store HXr.out (i := 1) _, (heap_store_ne _ (by have := HLX.out; omega)).trans HXa.out⟩
        · have hq := HRS.out
          rw [hxe] at hq
          simp [Rl.set] at hq
          obtain ⟨rfl, rfl, rfl, rfl⟩ := hq
          subst hxe
          go_wp2
          go_meet
          case rel => exact ⟨HBa.out.setCell (p := ⟨w1.heap.size, 2, none⟩) HLW.out _, heap_store HXr.out (i := 2) _, (heap_store_ne _ (by have := HLX.out; omega)).trans HXa.out⟩
        · have hq := HRS.out
          rw [hxe] at hq
          simp [Rl.set] at hq
          obtain ⟨rfl, rfl, rfl, rfl⟩ := hq
          subst hxe
          go_wp2
          go_meet
          case rel => exact ⟨HBa.out.setCell (p := ⟨w1.heap.size, 3, none⟩) HLW.out _, heap_store HXr.out (i := 3) _, (heap_store_ne _ (by have := HLX.out; omega)).trans HXa.out⟩
      case rest =>
        obtain ⟨hB5, hX5, hM5⟩ := hcut
        obtain ⟨wb, rfl⟩ : ∃ wb, wb = wc := ⟨_, rfl⟩
        clear a1 fr r0 r1 r2 r3 HXr HXa HBa
        have d20 := HC.out wb hB5.out
        have d11 : wb.cell? ⟨w.heap.size, 11, none⟩ = some (.int .u64 nu) := cell_at hM5.out 11
        have r0 := cell_at hX5.out 0
        have r1 := cell_at hX5.out 1
        have r2 := cell_at hX5.out 2
        have r3 := cell_at hX5.out 3
        simp at r0 r1 r2 r3
        have lpb : p < wb.heap.size := Nat.lt_of_lt_of_le lp hB5.out.size
        obtain ⟨w4, hr4, mb4, hf4⟩ := ((HMV.out wb hB5.out).same (w' := wb.drew) rfl).store Tryz.underlying36 Tryz.underlying79 (by unfold maxLen; omega) nu (wf_u64 hx) (.agg #[.bool sa, .bool sb, .bool sc, .bool sd]) ⟨⟨sa, sb, sc, sd⟩, rfl⟩
        have hfb : Fr (fun k => k = bv') wb w4 := (Fr.drew _ wb).trans hf4 (fun _ h => .inl h)
        have HPS4 : Hid (PMem w4 p S m1 ∧ Fr S w w4) := HPS.out wb w4 hB5.out mb4 hfb
        have hbl : bv' < w.heap.size := by have := (HMV.out w (Below.refl _ _)).lt; exact this
        have HX4 : Hid (w4.heap[w1.heap.size]? = some (.cells #[.bool sa, .bool sb, .bool sc, .bool sd] 119 (0, 0))) := (hfb.block _ (lt_at hX5.out) (by have := HLW.out; omega)).trans hX5.out
        have HM4 : Hid (w4.heap[w.heap.size]? = some (.cells #[.int .i64 xk, .int .i64 xf, .int .i64 xv, .int .i64 bv, .int .i64 jv, .int .u64 jb, .int .u64 j0, .int .u64 j1, .int .u64 j2, .int .u64 j3, .string bc, .int .u64 nu, .int .i64 cv, .int .u64 cb, .int .u64 k0, .int .u64 k1, .int .u64 k2, .int .u64 k3, .int .u64 sl] 43 (0, 0))) := (hfb.block _ (lt_at hM5.out) (by omega)).trans hM5.out
        clear mb4 hf4 hfb hbl hX5 hM5 hB5 HPS HMV HC
        go_upto_region 6 with fail
        go_cut [] (fun w' => w' = w4)
        case first =>
          go_region
          all_goals (
            go_wp2
            go_meet
            case rel => exact rfl)
        case rest =>
          subst hcut
          clear d20 d11 r0 r1 r2 r3 lpb hr4
          have r0 := cell_at HX4.out 0
          have r1 := cell_at HX4.out 1
          have r2 := cell_at HX4.out 2
          have r3 := cell_at HX4.out 3
          simp at r0 r1 r2 r3
          by_cases hfull : 3 ≤ (⟨sa, sb, sc, sd⟩ : Rl).cnt
          · have ef : decide (3 ≤ (⟨sa, sb, sc, sd⟩ : Rl).cnt) = true := decide_eq_true hfull
            rw [ef] at HFU
            have HR2 : Hid (RR = (if m.view ≤ xv then m2.enter (xv + 1) else m2, 0)) := by show _ = _; rw [HR.out, if_pos hfull]
            clear ef hfull HR
            go_upto_region 9 with (go_at_call 75; refine (HFU.out _).mono ?_; rintro e w6 ⟨rfl, hb6⟩)
            have HP6 : Hid (PMem w6 p S m1) := HPS4.out.1.below hb6
            have HF6 : Hid (Fr S w w6) := HPS4.out.2.trans (Fr.of_below hb6) (fun _ h => .inl h)
            have HX6 : Hid (w6.heap[w1.heap.size]? = some (.cells #[.bool sa, .bool sb, .bool sc, .bool sd] 119 (0, 0))) := (hb6.block _ (lt_at HX4.out)).trans HX4.out
            have HM6 : Hid (w6.heap[w.heap.size]? = some (.cells #[.int .i64 xk, .int .i64 xf, .int .i64 xv, .int .i64 bv, .int .i64 jv, .int .u64 jb, .int .u64 j0, .int .u64 j1, .int .u64 j2, .int .u64 j3, .string bc, .int .u64 nu, .int .i64 cv, .int .u64 cb, .int .u64 k0, .int .u64 k1, .int .u64 k2, .int .u64 k3, .int .u64 sl] 43 (0, 0))) := (hb6.block _ (lt_at HM4.out)).trans HM4.out
            clear r0 r1 r2 r3 hb6 HX4 HM4 HPS4
            have d2 : w6.cell? ⟨w.heap.size, 2, none⟩ = some (.int .i64 xv) := cell_at HM6.out 2
            have d11 : w6.cell? ⟨w.heap.size, 11, none⟩ = some (.int .u64 nu) := cell_at HM6.out 11
            have r0 := cell_at HX6.out 0
            have r1 := cell_at HX6.out 1
            have r2 := cell_at HX6.out 2
            have r3 := cell_at HX6.out 3
            simp at r0 r1 r2 r3
            go_upto_region 10 with (first
              | (go_at_call 100; refine (HCE.out _ HP6.out.tab).mono ?_; rintro e w7 ⟨rfl, hb7⟩; have HP7 : Hid (PMem w7 p S m1) := HP6.out.below hb7; have HF7 : Hid (Fr S w w7) := HF6.out.trans (Fr.of_below hb7) (fun _ h => .inl h); have HM7 : Hid (w7.heap[w.heap.size]? = some (.cells #[.int .i64 xk, .int .i64 xf, .int .i64 xv, .int .i64 bv, .int .i64 jv, .int .u64 jb, .int .u64 j0, .int .u64 j1, .int .u64 j2, .int .u64 j3, .string bc, .int .u64 nu, .int .i64 cv, .int .u64 cb, .int .u64 k0, .int .u64 k1, .int .u64 k2, .int .u64 k3, .int .u64 sl] 43 (0, 0))) := (hb7.block _ (lt_at HM6.out)).trans HM6.out; clear hb7)
              | (go_at_call 96; refine (HLE.out _ HP7.out).mono ?_; rintro e w8 ⟨rfl, S8, hp8, hg8, hf8⟩))
            have hns : ¬ S w.heap.size := fun hh => by have := HP.out.lt _ hh; omega
            have HM8 : Hid (w8.heap[w.heap.size]? = some (.cells #[.int .i64 xk, .int .i64 xf, .int .i64 xv, .int .i64 bv, .int .i64 jv, .int .u64 jb, .int .u64 j0, .int .u64 j1, .int .u64 j2, .int .u64 j3, .string bc, .int .u64 nu, .int .i64 cv, .int .u64 cb, .int .u64 k0, .int .u64 k1, .int .u64 k2, .int .u64 k3, .int .u64 sl] 43 (0, 0))) := (hf8.block _ (lt_at HM7.out) hns).trans HM7.out
            have HP8 : Hid (PMem w8 p S8 m2) := hp8
            have HG8 : Hid (Grow S w S8) := fun k hk => (hg8 k hk).elim .inl (fun h => .inr (Nat.le_trans HF7.out.size h))
            have HF8 : Hid (Fr S w w8) := HF7.out.trans hf8 (fun _ h => .inl h)
            clear hns hp8 hg8 hf8 d2 d11 r0 r1 r2 r3 HP7 HF7 HM7 HX6 HM6 HP6 HF6
            have d2 : w8.cell? ⟨w.heap.size, 2, none⟩ = some (.int .i64 xv) := cell_at HM8.out 2
            have v2 := HLV.out w8 S8 HP8.out
            have lp8 := HP8.out.see.lt
            by_cases hvv : m.view ≤ xv
            · have hwr : IntKind.i64.wrap (xv + 1) = xv + 1 := by rw [IntKind.wrap_i64]; omega
              have HR3 : Hid (RR = (m2.enter (xv + 1), 0)) := by show _ = _; rw [HR2.out, if_pos hvv]
              go_quiet (fail)
              go_wp2_with (go_at_call 57; refine (HEN.out _ S8 hvv (HP8.out.heap (w' := w8.drewN nq) rfl)).mono ?_; rintro e w9 ⟨rfl, hp9, hf9⟩)
              go_ret
              rw [HR3.out]
              have hf8' : Fr S w (w8.drewN nq) := HF8.out.trans (Fr.drewN S w8 nq) (fun _ h => .inl h)
              exact ⟨rfl, S8, hp9, HG8.out, hf8'.trans hf9 (fun k hk => HG8.out k hk)⟩
            · have HR3 : Hid (RR = (m2, 0)) := by show _ = _; rw [HR2.out, if_neg hvv]
              go_quiet (fail)
              go_wp2
              go_ret
              rw [HR3.out]
              exact ⟨rfl, S8, HP8.out.heap (w' := w8.drewN nq) rfl, HG8.out, HF8.out.trans (Fr.drewN S w8 nq) (fun _ h => .inl h)⟩
          · have ef : decide (3 ≤ (⟨sa, sb, sc, sd⟩ : Rl).cnt) = false := decide_eq_false hfull
            rw [ef] at HFU
            have HR2 : Hid (RR = (m1, 0)) := by show _ = _; rw [HR.out, if_neg hfull]
            clear ef hfull HR
            go_wp2_with (go_at_call 75; refine (HFU.out _).mono ?_; rintro e w6 ⟨rfl, hb6⟩)
            go_ret
            rw [HR2.out]
            exact ⟨rfl, S, HPS4.out.1.below hb6, Grow.refl _ _, HPS4.out.2.trans (Fr.of_below hb6) (fun _ h => .inl h)⟩
  · have hvf := vote_fault hf
    have HVF : Hid (m.vote x = (m, m.faultV x)) := hvf
    have hne : (m.faultV x != 0) = true := by simp [hf]
    clear hvf h hi h2 hlog hvl hf
    generalize m.faultV x = F at *
    obtain ⟨xk, xf, xv, ⟨bv, ⟨jv, jb, j0, j1, j2, j3⟩, bc⟩, nu, ⟨cv, cb, k0, k1, k2, k3⟩, sl⟩ := x
    dsimp only [Msg.cells] at hW0 hld HFV ⊢
    go_enter Tryz.func78, Tryz.ntmps78
    go_upto_region 1 with fail
    rw [← hW0]
    clear hW0
    go_wp2_with (go_at_call 99; refine HFV.out.mono ?_; rintro e w1 ⟨rfl, hb1⟩)
    go_ret
    rw [HVF.out]
    exact ⟨rfl, S, HP.out.below (bnext HB0.out hb1), Grow.refl _ _, Fr.of_below (bnext HB0.out hb1)⟩
end Go.Proofs.YtkehpnobidendaaGreatDoor

namespace Go.Proofs.YtkehpnobidendaaGreatDoor
open Go.RowKit Go.Maps

attribute [local go_sem ↓] pload_msg
/-- The maps, when an Enter is taken. -/
theorem PMaps.entereds {w w1 : World} {S : Nat → Prop} {bb bv bw : Nat} {m : Mem} (h : PMaps w S bb bv bw m) (x : Msg) (hf : Fr (fun j => j = bw) w w1) {n : Nat} {f : Int → Option Value} (hn : n ≤ m.enters.length + m.proposed.length) (hV : WOk m f) (hi : IMap Tryz.prog 3 .i64 isRec w1 bw (n + 1) (putAt f x.view (recV ⟨(vr m x.view).p, (vr m x.view).r.set x.fro⟩))) : PMaps w1 S bb bv bw (m.entered1 x) := by
  have hl := h.lts
  refine ⟨h.sb, h.sv, h.sw, h.n1, h.n2, h.n3, ?_, ?_, ⟨n + 1, _, by show n + 1 ≤ (m.enters ++ [_]).length + m.proposed.length; simp; omega, hi, ⟨fun k hk => ?_⟩⟩⟩
  · obtain ⟨k, hk, hb⟩ := h.mb
    exact ⟨k, hk, hb.same (hf.block bb hl.1 h.n2)⟩
  · obtain ⟨k, g, hk, hb, o⟩ := h.mv
    exact ⟨k, g, hk, hb.same (hf.block bv hl.2.1 h.n3), ⟨o.ok, o.un⟩⟩
  · unfold putAt
    have hvr : vr (m.entered1 x) k = ⟨m.proposed.contains k, rl ((m.entered1 x).entered k)⟩ := rfl
    rw [hvr, entered1_is]
    by_cases hkn : k = x.view
    · subst hkn
      rw [if_pos rfl, if_pos rfl, rl_snoc]
      rfl
    · rw [if_neg hkn, if_neg hkn]
      exact hV.ok k hk
set_option maxRecDepth 100000 in
set_option maxHeartbeats 4000000 in
theorem ptakeEnter (w : World) (p : Nat) (S : Nat → Prop) (m : Mem) (h : PMem w p S m) (hi : Inv m) (h2 : Inv2 m) (x : Msg) (hx : x.cert.Ok) (hlog : m.log.length + m.blocks.length + 1 ≤ 1700000000000) (hle : m.enters.length + m.proposed.length ≤ 1700000000000) :
    Calls Tryz.prog 79 #[.pointer (some ⟨p, 0, none⟩), .agg x.cells.toArray] w fun e w' => e = .returned (.int .i64 (m.enters1 x).2) ∧ ∃ S', PMem w' p S' (m.enters1 x).1 ∧ Grow S w S' ∧ Fr S w w' := by
  obtain ⟨W0, hW0⟩ : ∃ W, W = w.alloc (.cells x.cells.toArray 43) := ⟨_, rfl⟩
  have HB0 : Hid (Below w.heap.size w W0) := by rw [hW0]; exact below_alloc _ _
  have HX0 : Hid (W0.heap[w.heap.size]? = some (.cells x.cells.toArray 43 (0, 0))) := by rw [hW0]; exact heap_alloc_new _ _
  have hld : (rowVar 43 ⟨w.heap.size, 0, none⟩).run Tryz.prog W0 = .ok (.agg x.cells.toArray) W0 := rowVar_whole W0 w.heap.size 43 43 x.cells.toArray (0, 0) _ HX0.out Tryz.underlying43 rfl (by kernel_rfl)
  have HFV : Hid (Calls Tryz.prog 101 #[.pointer (some ⟨p, 0, none⟩), .agg x.cells.toArray] W0 fun e w' => e = .returned (.int .i64 (m.faultE x)) ∧ Below W0.heap.size W0 w') := pfaultE W0 p S m (h.below HB0.out) x hx
  have HP : Hid (PMem w p S m) := h
  by_cases hf : m.faultE x = 0
  · obtain ⟨h1, h3, h4, h5, h6, h7⟩ := enter_fine hf
    have hne : ((0 : Int) != 0) = false := rfl
    rw [hf] at HFV
    have hm1 := inv_entered1 hi x
    have hm2 := inv2_entered1 h2 x ⟨h1.1, h1.2.1⟩ h6
    obtain ⟨rr, hrr⟩ : ∃ r, r = vr m x.view := ⟨_, rfl⟩
    have hcnt : (rr.r.set x.fro).cnt = (m.entered x.view).length + 1 := by
      rw [hrr]
      show ((rl (m.entered x.view)).set x.fro).cnt = _
      rw [cnt_set h1.1 h1.2.1 (by rw [rl_at _ _ h1.1 h1.2.1]; exact h6), h2.eo.e]
    rw [← hcnt] at h7
    have hheld : Held (m.entered1 x) x.cert := ⟨h3.1, hx, h4⟩
    have HLE : Hid (∀ W, PMem W p S (m.entered1 x) → Calls Tryz.prog 96 #[.pointer (some ⟨p, 0, none⟩), .agg x.cert.cells.toArray] W fun e w' => e = .returned (.tuple #[]) ∧ ∃ S', PMem w' p S' ((m.entered1 x).learn x.cert) ∧ Grow S W S' ∧ Fr S W w') := fun W hW => plearn W p S (m.entered1 x) hW hm1 hm2.up _ hheld hlog
    have hlv : ((m.entered1 x).learn x.cert).view = m.view := (learn_keeps (m.entered1 x) x.cert).v
    have HR : Hid (m.enters1 x = (if 3 ≤ (rr.r.set x.fro).cnt ∧ m.view < x.view then ((m.entered1 x).learn x.cert).enter x.view else (m.entered1 x).learn x.cert, 0)) := by
      show _ = _
      rw [h7]
      show (if 3 ≤ (rr.r.set x.fro).cnt ∧ ((m.entered1 x).learn x.cert).view < x.view then ((m.entered1 x).learn x.cert).enter x.view else (m.entered1 x).learn x.cert, (0 : Int)) = _
      rw [hlv]
    have HEN : Hid (∀ W S', PMem W p S' ((m.entered1 x).learn x.cert) → Calls Tryz.prog 57 #[.pointer (some ⟨p, 0, none⟩), .int .i64 x.view] W fun e w' => e = .returned (.tuple #[]) ∧ PMem w' p S' (((m.entered1 x).learn x.cert).enter x.view) ∧ Fr S' W w') := fun W S' hW => penter W p S' _ hW x.view (by omega) (by omega) (by rw [hlv]; exact h5)
    have HFU : Hid (∀ W, Calls Tryz.prog 75 #[rollV (rr.r.set x.fro)] W fun e w' => e = .returned (.bool (decide (3 ≤ (rr.r.set x.fro).cnt))) ∧ Below W.heap.size W w') := fun W => pfull W (rr.r.set x.fro)
    have HLV : Hid (∀ W S', PMem W p S' ((m.entered1 x).learn x.cert) → W.cell? ⟨p, 2, none⟩ = some (.int .i64 m.view)) := fun W S' hW => by rw [← hlv]; exact hW.see.c2
    obtain ⟨vq, vl, bb, bv', bw, g1, g2⟩ := h.ex
    obtain ⟨nv, fv, hnv, mv, ov⟩ := g2.mw
    have hroll : (fv x.view).getD (recV Vr.none) = recV rr := by rw [hrr]; exact ov.ok x.view h5
    have HMV : Hid (∀ W, Below w.heap.size w W → IMap Tryz.prog 3 .i64 isRec W bw nv fv) := fun W hW => mv.below hW
    have HC : Hid (∀ W, Below w.heap.size w W → W.cell? ⟨p, 21, none⟩ = some (.map (some bw))) := fun W hW => (hW.cell (p := ⟨p, 21, none⟩) h.see.lt).trans (cell_at g1.box 21)
    have HPS : Hid (∀ (W2 W3 : World), Below w.heap.size w W2 → IMap Tryz.prog 3 .i64 isRec W3 bw (nv + 1) (putAt fv x.view (recV ⟨rr.p, rr.r.set x.fro⟩)) → Fr (fun j => j = bw) W2 W3 → PMem W3 p S (m.entered1 x) ∧ Fr S w W3) := fun W2 W3 hb hI hF => by
      have hg1 := g1.below hb
      have hg3 : PMaps W2 S bb bv' bw m := g2.same (fun k hk _ => hb.block k (g1.lt k hk)) (fun _ h => h)
      rw [hrr] at hI
      exact ⟨PMem.stored hg1 hg3 (.inr (.inr rfl)) (h.below hb).tab h.t0 hF rfl rfl (hg3.entereds x hF hnv ov hI), (Fr.of_below (S := S) hb).trans (hF.mono (S' := S) (fun i hi => by rw [hi]; exact g2.sw)) (fun _ h => .inl h)⟩
    have lp := h.see.lt
    have hxf : 0 ≤ x.fro ∧ x.fro ≤ 3 := ⟨h1.1, h1.2.1⟩
    have hwf : (Lit.int .i64 x.view).wf = true := wf_i64 (by omega) (by omega)
    clear hf h1 h3 h4 h5 h6 h7 hm1 hm2 hrr hcnt hheld hlv g1 g2 ov mv h hi h2 hlog
    obtain ⟨rs, hrs⟩ : ∃ r, r = rr.r.set x.fro := ⟨_, rfl⟩
    rw [← hrs] at HR HFU HPS
    obtain ⟨m1, hm1⟩ : ∃ y, y = m.entered1 x := ⟨_, rfl⟩
    rw [← hm1] at HLE HR HEN HLV HPS
    obtain ⟨m2, hm2⟩ : ∃ y, y = m1.learn x.cert := ⟨_, rfl⟩
    rw [← hm2] at HLE HR HEN HLV
    obtain ⟨RR, hRR⟩ : ∃ y, y = m.enters1 x := ⟨_, rfl⟩
    rw [← hRR] at HR ⊢
    clear hRR hm2 hm1
    obtain ⟨xk, xf, xv, ⟨bv, ⟨jv, jb, j0, j1, j2, j3⟩, bc⟩, nu, ⟨cv, cb, k0, k1, k2, k3⟩, sl⟩ := x
    dsimp only [Msg.cells] at *
    obtain ⟨rp, ra, rb, rc, rd⟩ := rr
    obtain ⟨sa, sb, sc, sd⟩ := rs
    dsimp only [recV, rollV, Crt.cells, Rl.none, Vr.none] at hroll HFU HPS HLE
    go_enter Tryz.func79, Tryz.ntmps79
    go_upto_region 1 with fail
    rw [← hW0]
    clear hW0
    go_upto_region 4 with (go_at_call 101; refine HFV.out.mono ?_; rintro e w1 ⟨rfl, hb1⟩)
    have hB1 : Below w.heap.size w w1 := bnext HB0.out hb1
    have HX1 : Hid (w1.heap[w.heap.size]? = some (.cells #[.int .i64 xk, .int .i64 xf, .int .i64 xv, .int .i64 bv, .int .i64 jv, .int .u64 jb, .int .u64 j0, .int .u64 j1, .int .u64 j2, .int .u64 j3, .string bc, .int .u64 nu, .int .i64 cv, .int .u64 cb, .int .u64 k0, .int .u64 k1, .int .u64 k2, .int .u64 k3, .int .u64 sl] 43 (0, 0))) := (hb1.block _ (lt_at HX0.out)).trans HX0.out
    have HB1 : Hid (Below w.heap.size w w1) := hB1
    clear hb1 HFV HX0 HB0 hld
    have d21 := HC.out w1 hB1
    have d2 : w1.cell? ⟨w.heap.size, 2, none⟩ = some (.int .i64 xv) := cell_at HX1.out 2
    have lx := lt_at HX1.out
    have lp1 : p < w1.heap.size := Nat.lt_of_lt_of_le lp hB1.size
    have hlk : ∀ W, Below w.heap.size w W → (Instr.lookup 80 (.map (some bw)) (.int .i64 xv) false).run Tryz.prog W = .ok (.agg #[.bool rp, .bool ra, .bool rb, .bool rc, .bool rd]) W := fun W hW => by
      have := (HMV.out W hW).look Tryz.underlying3 Tryz.underlying80 (zero_rec _) ⟨_, rfl⟩ xv hwf
      rw [show recV Vr.none = .agg #[.bool false, .bool false, .bool false, .bool false, .bool false] from rfl, hroll] at this
      exact this
    have hlk1 := hlk w1.drew hB1.drew
    have hlk2 := hlk (w1.alloc (.cells #[.bool false, .bool false, .bool false, .bool false, .bool false] 121)).drew (bnext hB1 (below_alloc _ _)).drew
    clear hlk hroll hB1
    go_cut [6] (fun s w' => s = .pointer (some ⟨w1.heap.size, 0, none⟩) ∧ w' = (w1.alloc (.cells #[.bool rp, .bool ra, .bool rb, .bool rc, .bool rd] 121)).drew)
    case first =>
      go_region
      all_goals (
        go_wp2
        go_meet
        case rel => exact ⟨rfl, rfl⟩)
    case rest =>
      obtain ⟨rfl, hwc⟩ := hcut
      obtain ⟨wa, rfl⟩ : ∃ wa, wa = wc := ⟨_, rfl⟩
      have hBa : Below w1.heap.size w1 wa := by rw [hwc]; exact (below_alloc _ _).drew
      have HXr : Hid (wa.heap[w1.heap.size]? = some (.cells #[.bool rp, .bool ra, .bool rb, .bool rc, .bool rd] 121 (0, 0))) := by rw [hwc]; exact heap_alloc_new w1 _
      have HXa : Hid (wa.heap[w.heap.size]? = some (.cells #[.int .i64 xk, .int .i64 xf, .int .i64 xv, .int .i64 bv, .int .i64 jv, .int .u64 jb, .int .u64 j0, .int .u64 j1, .int .u64 j2, .int .u64 j3, .string bc, .int .u64 nu, .int .i64 cv, .int .u64 cb, .int .u64 k0, .int .u64 k1, .int .u64 k2, .int .u64 k3, .int .u64 sl] 43 (0, 0))) := (hBa.block _ lx).trans HX1.out
      have HBa : Hid (Below w.heap.size w wa) := bnext HB1.out hBa
      have HLX : Hid (w.heap.size < w1.heap.size) := lx
      have HLW : Hid (w.heap.size ≤ w1.heap.size) := HB1.out.size
      clear hwc hBa HX1 HB1 d21 d2 lx lp1 hlk1 hlk2
      have a1 : wa.cell? ⟨w.heap.size, 1, none⟩ = some (.int .i64 xf) := cell_at HXa.out 1
      have fr := free_at HXr.out
      have r1 := cell_at HXr.out 1
      have r2 := cell_at HXr.out 2
      have r3 := cell_at HXr.out 3
      have r4 := cell_at HXr.out 4
      simp at r1 r2 r3 r4
      go_upto_region 5 with fail
      go_cut [] (fun w' => Hid (Below w.heap.size w w') ∧ Hid (w'.heap[w1.heap.size]? = some (.cells #[.bool rp, .bool sa, .bool sb, .bool sc, .bool sd] 121 (0, 0))) ∧ Hid (w'.heap[w.heap.size]? = some (.cells #[.int .i64 xk, .int .i64 xf, .int .i64 xv, .int .i64 bv, .int .i64 jv, .int .u64 jb, .int .u64 j0, .int .u64 j1, .int .u64 j2, .int .u64 j3, .string bc, .int .u64 nu, .int .i64 cv, .int .u64 cb, .int .u64 k0, .int .u64 k1, .int .u64 k2, .int .u64 k3, .int .u64 sl] 43 (0, 0))))
      case first =>
        have HRS : Hid ((⟨sa, sb, sc, sd⟩ : Rl) = (⟨ra, rb, rc, rd⟩ : Rl).set xf) := hrs
        clear hrs
        rcases (by omega : xf = 0 ∨ xf = 1 ∨ xf = 2 ∨ xf = 3) with hxe | hxe | hxe | hxe
        · have hq := HRS.out
          rw [hxe] at hq
          simp [Rl.set] at hq
          obtain ⟨rfl, rfl, rfl, rfl⟩ := hq
          subst hxe
          go_wp2
          go_meet
          case rel => exact ⟨HBa.out.setCell (p := ⟨w1.heap.size, 1, none⟩) HLW.out _, heap_store HXr.out (i := 1) _, (heap_store_ne _ (by have := HLX.out; omega)).trans HXa.out⟩
        · have hq := HRS.out
          rw [hxe] at hq
          simp [Rl.set] at hq
          obtain ⟨rfl, rfl, rfl, rfl⟩ := hq
          subst hxe
          go_wp2
          go_meet
          case rel => exact ⟨HBa.out.setCell (p := ⟨w1.heap.size, 2, none⟩) HLW.out _, heap_store HXr.out (i := 2) _, (heap_store_ne _ (by have := HLX.out; omega)).trans HXa.out⟩
        · have hq := HRS.out
          rw [hxe] at hq
          simp [Rl.set] at hq
          obtain ⟨rfl, rfl, rfl, rfl⟩ := hq
          subst hxe
          go_wp2
          go_meet
          case rel => exact ⟨HBa.out.setCell (p := ⟨w1.heap.size, 3, none⟩) HLW.out _, heap_store HXr.out (i := 3) _, (heap_store_ne _ (by have := HLX.out; omega)).trans HXa.out⟩
        · have hq := HRS.out
          rw [hxe] at hq
          simp [Rl.set] at hq
          obtain ⟨rfl, rfl, rfl, rfl⟩ := hq
          subst hxe
          go_wp2
          go_meet
          case rel => exact ⟨HBa.out.setCell (p := ⟨w1.heap.size, 4, none⟩) HLW.out _, heap_store HXr.out (i := 4) _, (heap_store_ne _ (by have := HLX.out; omega)).trans HXa.out⟩
      case rest =>
        obtain ⟨hB5, hX5, hM5⟩ := hcut
        obtain ⟨wb, rfl⟩ : ∃ wb, wb = wc := ⟨_, rfl⟩
        clear a1 fr r1 r2 r3 r4 HXr HXa HBa
        have d21 := HC.out wb hB5.out
        have d2 : wb.cell? ⟨w.heap.size, 2, none⟩ = some (.int .i64 xv) := cell_at hM5.out 2
        have r0 := cell_at hX5.out 0
        have r1 := cell_at hX5.out 1
        have r2 := cell_at hX5.out 2
        have r3 := cell_at hX5.out 3
        have r4 := cell_at hX5.out 4
        simp at r0 r1 r2 r3 r4
        have lpb : p < wb.heap.size := Nat.lt_of_lt_of_le lp hB5.out.size
        obtain ⟨w4, hr4, mb4, hf4⟩ := ((HMV.out wb hB5.out).same (w' := wb.drew) rfl).store Tryz.underlying3 Tryz.underlying80 (by unfold maxLen; omega) xv hwf (.agg #[.bool rp, .bool sa, .bool sb, .bool sc, .bool sd]) ⟨⟨rp, ⟨sa, sb, sc, sd⟩⟩, rfl⟩
        have hfb : Fr (fun k => k = bw) wb w4 := (Fr.drew _ wb).trans hf4 (fun _ h => .inl h)
        have HPS4 : Hid (PMem w4 p S m1 ∧ Fr S w w4) := HPS.out wb w4 hB5.out mb4 hfb
        have hbl : bw < w.heap.size := by have := (HMV.out w (Below.refl _ _)).lt; exact this
        have HX4 : Hid (w4.heap[w1.heap.size]? = some (.cells #[.bool rp, .bool sa, .bool sb, .bool sc, .bool sd] 121 (0, 0))) := (hfb.block _ (lt_at hX5.out) (by have := HLW.out; omega)).trans hX5.out
        have HM4 : Hid (w4.heap[w.heap.size]? = some (.cells #[.int .i64 xk, .int .i64 xf, .int .i64 xv, .int .i64 bv, .int .i64 jv, .int .u64 jb, .int .u64 j0, .int .u64 j1, .int .u64 j2, .int .u64 j3, .string bc, .int .u64 nu, .int .i64 cv, .int .u64 cb, .int .u64 k0, .int .u64 k1, .int .u64 k2, .int .u64 k3, .int .u64 sl] 43 (0, 0))) := (hfb.block _ (lt_at hM5.out) (by omega)).trans hM5.out
        clear mb4 hf4 hfb hbl hX5 hM5 hB5 HPS HMV HC
        go_upto_region 6 with fail
        go_cut [] (fun w' => w' = w4)
        case first =>
          go_region
          all_goals (
            go_wp2
            go_meet
            case rel => exact rfl)
        case rest =>
          subst hcut
          clear d21 d2 r0 r1 r2 r3 r4 lpb hr4
          have k12 : wc.cell? ⟨w.heap.size, 12, none⟩ = some (.int .i64 cv) := cell_at HM4.out 12
          have k13 : wc.cell? ⟨w.heap.size, 13, none⟩ = some (.int .u64 cb) := cell_at HM4.out 13
          have k14 : wc.cell? ⟨w.heap.size, 14, none⟩ = some (.int .u64 k0) := cell_at HM4.out 14
          have k15 : wc.cell? ⟨w.heap.size, 15, none⟩ = some (.int .u64 k1) := cell_at HM4.out 15
          have k16 : wc.cell? ⟨w.heap.size, 16, none⟩ = some (.int .u64 k2) := cell_at HM4.out 16
          have k17 : wc.cell? ⟨w.heap.size, 17, none⟩ = some (.int .u64 k3) := cell_at HM4.out 17
          go_upto_region 8 with (go_at_call 96; refine (HLE.out _ HPS4.out.1).mono ?_; rintro e w8 ⟨rfl, S8, hp8, hg8, hf8⟩)
          have hns : ¬ S w.heap.size := fun hh => by have := HP.out.lt _ hh; omega
          have hns1 : ¬ S w1.heap.size := fun hh => by have := HP.out.lt _ hh; have := HLX.out; omega
          have HM8 : Hid (w8.heap[w.heap.size]? = some (.cells #[.int .i64 xk, .int .i64 xf, .int .i64 xv, .int .i64 bv, .int .i64 jv, .int .u64 jb, .int .u64 j0, .int .u64 j1, .int .u64 j2, .int .u64 j3, .string bc, .int .u64 nu, .int .i64 cv, .int .u64 cb, .int .u64 k0, .int .u64 k1, .int .u64 k2, .int .u64 k3, .int .u64 sl] 43 (0, 0))) := (hf8.block _ (lt_at HM4.out) hns).trans HM4.out
          have HX8 : Hid (w8.heap[w1.heap.size]? = some (.cells #[.bool rp, .bool sa, .bool sb, .bool sc, .bool sd] 121 (0, 0))) := (hf8.block _ (lt_at HX4.out) hns1).trans HX4.out
          have HP8 : Hid (PMem w8 p S8 m2) := hp8
          have HG8 : Hid (Grow S w S8) := fun k hk => (hg8 k hk).elim .inl (fun h => .inr (Nat.le_trans HPS4.out.2.size h))
          have HF8 : Hid (Fr S w w8) := HPS4.out.2.trans hf8 (fun _ h => .inl h)
          clear hns hns1 hp8 hg8 hf8 k12 k13 k14 k15 k16 k17 HPS4 HM4 HX4
          have HQ : Hid (∀ c : Cls w8, Calls Tryz.prog 75 #[.agg #[.bool sa, .bool sb, .bool sc, .bool sd]] c.w fun e w' => e = .returned (.bool (decide (3 ≤ (⟨sa, sb, sc, sd⟩ : Rl).cnt))) ∧ Below c.w.heap.size c.w w') := fun c => HFU.out c.w
          have e2 : ∀ c : Cls w8, c.w.cell? ⟨w.heap.size, 2, none⟩ = some (.int .i64 xv) := fun c => cell_at ((c.b.block _ (lt_at HM8.out)).trans HM8.out) 2
          have ev : ∀ c : Cls w8, c.w.cell? ⟨p, 2, none⟩ = some (.int .i64 m.view) := fun c => HLV.out c.w S8 (HP8.out.below c.b)
          have r1 : ∀ c : Cls w8, c.w.cell? ⟨w1.heap.size, 1, none⟩ = some (.bool sa) := fun c => cell_at ((c.b.block _ (lt_at HX8.out)).trans HX8.out) 1
          have r2 : ∀ c : Cls w8, c.w.cell? ⟨w1.heap.size, 2, none⟩ = some (.bool sb) := fun c => cell_at ((c.b.block _ (lt_at HX8.out)).trans HX8.out) 2
          have r3 : ∀ c : Cls w8, c.w.cell? ⟨w1.heap.size, 3, none⟩ = some (.bool sc) := fun c => cell_at ((c.b.block _ (lt_at HX8.out)).trans HX8.out) 3
          have r4 : ∀ c : Cls w8, c.w.cell? ⟨w1.heap.size, 4, none⟩ = some (.bool sd) := fun c => cell_at ((c.b.block _ (lt_at HX8.out)).trans HX8.out) 4
          have HEND : Hid (∀ W9, Below w8.heap.size w8 W9 → PMem W9 p S8 m2 ∧ Fr S w W9) := fun W9 hb => ⟨HP8.out.below hb, HF8.out.trans (Fr.of_below hb) (fun _ h => .inl h)⟩
          by_cases hfull : 3 ≤ (⟨sa, sb, sc, sd⟩ : Rl).cnt
          · have ef : decide (3 ≤ (⟨sa, sb, sc, sd⟩ : Rl).cnt) = true := decide_eq_true hfull
            rw [ef] at HQ
            by_cases hvv : m.view < xv
            · have HR2 : Hid (RR = (m2.enter xv, 0)) := by show _ = _; rw [HR.out, if_pos ⟨hfull, hvv⟩]
              clear ef hfull HR
              refine wp_region_cls w8 (Below.refl _ _) (by kernel_rfl) (by kernel_rfl) ?_
              repeat (go_big_quiet_step ((go_at_call 75; exact Calls.cls (HQ.out _))))
              refine wpQuiet_nil ?_
              rintro W9 ⟨⟨_, hW9⟩, rfl⟩
              have d2 : W9.cell? ⟨w.heap.size, 2, none⟩ = some (.int .i64 xv) := e2 ⟨W9, hW9⟩
              clear e2 ev r1 r2 r3 r4
              go_wp2_with (go_at_call 57; refine (HEN.out _ S8 (HEND.out _ hW9).1).mono ?_; rintro e w10 ⟨rfl, hp10, hf10⟩)
              go_ret
              rw [HR2.out]
              exact ⟨rfl, S8, hp10, HG8.out, (HEND.out _ hW9).2.trans hf10 (fun k hk => HG8.out k hk)⟩
            · have HR2 : Hid (RR = (m2, 0)) := by show _ = _; rw [HR.out, if_neg (fun h => hvv h.2)]
              clear ef hfull HR
              refine wp_region_cls w8 (Below.refl _ _) (by kernel_rfl) (by kernel_rfl) ?_
              repeat (go_big_quiet_step ((go_at_call 75; exact Calls.cls (HQ.out _))))
              refine wpQuiet_nil ?_
              rintro W9 ⟨⟨_, hW9⟩, rfl⟩
              clear e2 ev r1 r2 r3 r4
              go_wp2
              go_ret
              rw [HR2.out]
              exact ⟨rfl, S8, (HEND.out _ hW9).1, HG8.out, (HEND.out _ hW9).2⟩
          · have ef : decide (3 ≤ (⟨sa, sb, sc, sd⟩ : Rl).cnt) = false := decide_eq_false hfull
            rw [ef] at HQ
            have HR2 : Hid (RR = (m2, 0)) := by show _ = _; rw [HR.out, if_neg (fun h => hfull h.1)]
            clear ef hfull HR
            refine wp_region_cls w8 (Below.refl _ _) (by kernel_rfl) (by kernel_rfl) ?_
            repeat (go_big_quiet_step ((go_at_call 75; exact Calls.cls (HQ.out _))))
            refine wpQuiet_nil ?_
            rintro W9 ⟨⟨_, hW9⟩, rfl⟩
            clear e2 ev r1 r2 r3 r4
            go_wp2
            go_ret
            rw [HR2.out]
            exact ⟨rfl, S8, (HEND.out _ hW9).1, HG8.out, (HEND.out _ hW9).2⟩
  · have hvf := enter_fault hf
    have HVF : Hid (m.enters1 x = (m, m.faultE x)) := hvf
    have hne : (m.faultE x != 0) = true := by simp [hf]
    clear hvf h hi h2 hlog hle hf
    generalize m.faultE x = F at *
    obtain ⟨xk, xf, xv, ⟨bv, ⟨jv, jb, j0, j1, j2, j3⟩, bc⟩, nu, ⟨cv, cb, k0, k1, k2, k3⟩, sl⟩ := x
    dsimp only [Msg.cells] at hW0 hld HFV ⊢
    go_enter Tryz.func79, Tryz.ntmps79
    go_upto_region 1 with fail
    rw [← hW0]
    clear hW0
    go_wp2_with (go_at_call 101; refine HFV.out.mono ?_; rintro e w1 ⟨rfl, hb1⟩)
    go_ret
    rw [HVF.out]
    exact ⟨rfl, S, HP.out.below (bnext HB0.out hb1), Grow.refl _ _, Fr.of_below (bnext HB0.out hb1)⟩
end Go.Proofs.YtkehpnobidendaaGreatDoor

namespace Go.Proofs.YtkehpnobidendaaGreatDoor
open Go.RowKit Go.Maps

theorem agrees_is {m : Mem} {k : Nat} {xs : List U64} (hx : Ways m k xs) (hl : xs.length ≤ m.blocks.length) (old : Nat) (v : Bool) : (m.above old (m.blocks.length + 1) k || v) = (decide (k = old) || (decide (old ∈ xs.map (·.1)) || v)) := by
  rw [above_ways old hx (by omega), ← Bool.or_assoc]
  congr 1
  by_cases h1 : k = old <;> by_cases h2 : old ∈ xs.map (·.1) <;> simp [h1]
set_option maxRecDepth 100000 in
set_option maxHeartbeats 2000000 in
theorem pagrees (w : World) (p : Nat) (S : Nat → Prop) (m : Mem) (h : PMem w p S m) (hi : Inv m) (b : Blk) (hb : b.just.block < 18446744073709551616) :
    Calls Tryz.prog 97 #[.pointer (some ⟨p, 0, none⟩), .agg b.cells.toArray] w fun e w' => e = .returned (.bool (m.above m.locked.block (m.blocks.length + 1) b.just.block || decide (m.locked.view < b.just.view))) ∧ Below w.heap.size w w' := by
  obtain ⟨xs, hxs, hxl⟩ := ways_ex hi.ch b.just.block
  rw [agrees_is hxs hxl]
  have HIA : Hid (∀ W, Below w.heap.size w W → Calls Tryz.prog 115 #[.pointer (some ⟨p, 0, none⟩), .int .u64 m.locked.block, .int .u64 b.just.block] W fun e w' => e = .returned (.bool (decide (m.locked.block ∈ xs.map (·.1)))) ∧ Below W.heap.size W w') := fun W hW => pisAhead W p S m (h.below hW) m.locked.block b.just.block hb xs hxs
  generalize decide (m.locked.block ∈ xs.map (·.1)) = ia at *
  have HC : Hid (∀ W, Below w.heap.size w W → W.cell? ⟨p, 11, none⟩ = some (.int .i64 m.locked.view) ∧ W.cell? ⟨p, 12, none⟩ = some (.int .u64 m.locked.block)) := fun W hW => ⟨(h.below hW).see.c11, (h.below hW).see.c12⟩
  have lp := h.see.lt
  obtain ⟨R, hR⟩ : ∃ R, R = (decide (b.just.block = m.locked.block) || (ia || decide (m.locked.view < b.just.view))) := ⟨_, rfl⟩
  rw [← hR]
  have HRR : Hid (R = (decide (b.just.block = m.locked.block) || (ia || decide (m.locked.view < b.just.view)))) := hR
  clear hR h hi hxs hxl
  generalize m.locked.block = lb at *
  generalize m.locked.view = lv at *
  obtain ⟨bv, ⟨jv, jb, j0, j1, j2, j3⟩, bc⟩ := b
  dsimp only [Blk.cells] at *
  obtain ⟨W1, hW1⟩ : ∃ W, W = w.alloc (.cells #[.int .i64 bv, .int .i64 jv, .int .u64 jb, .int .u64 j0, .int .u64 j1, .int .u64 j2, .int .u64 j3, .string bc] 41) := ⟨_, rfl⟩
  have HB1 : Hid (Below w.heap.size w W1) := by rw [hW1]; exact below_alloc _ _
  have HX1 : Hid (W1.heap[w.heap.size]? = some (.cells #[.int .i64 bv, .int .i64 jv, .int .u64 jb, .int .u64 j0, .int .u64 j1, .int .u64 j2, .int .u64 j3, .string bc] 41 (0, 0))) := by rw [hW1]; exact heap_alloc_new _ _
  go_enter Tryz.func97, Tryz.ntmps97
  go_upto_region 1 with fail
  rw [← hW1]
  clear hW1
  have HX : Hid (∀ W, Below W1.heap.size W1 W → W.cell? ⟨w.heap.size, 1, none⟩ = some (.int .i64 jv) ∧ W.cell? ⟨w.heap.size, 2, none⟩ = some (.int .u64 jb) ∧ W.cell? ⟨p, 11, none⟩ = some (.int .i64 lv) ∧ W.cell? ⟨p, 12, none⟩ = some (.int .u64 lb)) := fun W hW => by
    have e' := (hW.block _ (lt_at HX1.out)).trans HX1.out
    have := HC.out W (bnext HB1.out hW)
    exact ⟨cell_at e' 1, cell_at e' 2, this.1, this.2⟩
  obtain ⟨d1, d2, d11, d12⟩ := HX.out W1 (Below.refl _ _)
  go_quiet (fail)
  by_cases he : jb = lb
  · have heq : ((jb : Int) == (lb : Int)) = true := by simp [he]
    have hRv : R = true := by rw [HRR.out]; simp [he]
    go_upto_region 2 with fail
    go_quiet (fail)
    go_wp2
    go_ret
    exact ⟨by first | rfl | (rw [hRv]; rfl), below_drewN (below_drewN HB1.out _) _⟩
  · have heq : ((jb : Int) == (lb : Int)) = false := by simp; omega
    have hde : decide (jb = lb) = false := by simp [he]
    go_upto_region 2 with fail
    have HQ : Hid (∀ c : Cls W1, Calls Tryz.prog 115 #[.pointer (some ⟨p, 0, none⟩), .int .u64 lb, .int .u64 jb] c.w fun e w' => e = .returned (.bool ia) ∧ Below c.w.heap.size c.w w') := fun c => HIA.out _ (bnext HB1.out c.b)
    have e1 : ∀ c : Cls W1, c.w.cell? ⟨w.heap.size, 1, none⟩ = some (.int .i64 jv) := fun c => (HX.out _ c.b).1
    have e11 : ∀ c : Cls W1, c.w.cell? ⟨p, 11, none⟩ = some (.int .i64 lv) := fun c => (HX.out _ c.b).2.2.1
    clear d1 d2 d11 d12
    cases ia
    · by_cases hlj : lv < jv
      · have hRv : R = true := by rw [HRR.out, hde]; simp [hlj]
        refine wp_region_cls W1 (below_drewN (Below.refl _ _) _) (by kernel_rfl) (by kernel_rfl) ?_
        repeat (go_big_quiet_step ((go_at_call 115; exact Calls.cls (HQ.out _))))
        refine wpQuiet_nil ?_
        rintro _ ⟨⟨W5, hW5⟩, rfl⟩
        go_wp2
        go_ret
        exact ⟨by first | rfl | (rw [hRv]; rfl), bnext HB1.out hW5⟩
      · have hRv : R = false := by rw [HRR.out, hde]; simp [hlj]
        refine wp_region_cls W1 (below_drewN (Below.refl _ _) _) (by kernel_rfl) (by kernel_rfl) ?_
        repeat (go_big_quiet_step ((go_at_call 115; exact Calls.cls (HQ.out _))))
        refine wpQuiet_nil ?_
        rintro _ ⟨⟨W5, hW5⟩, rfl⟩
        go_wp2
        go_ret
        exact ⟨by first | rfl | (rw [hRv]; rfl), bnext HB1.out hW5⟩
    · have hRv : R = true := by rw [HRR.out]; simp
      refine wp_region_cls W1 (below_drewN (Below.refl _ _) _) (by kernel_rfl) (by kernel_rfl) ?_
      repeat (go_big_quiet_step ((go_at_call 115; exact Calls.cls (HQ.out _))))
      refine wpQuiet_nil ?_
      rintro _ ⟨⟨W5, hW5⟩, rfl⟩
      go_wp2
      go_ret
      exact ⟨by first | rfl | (rw [hRv]; rfl), bnext HB1.out hW5⟩
end Go.Proofs.YtkehpnobidendaaGreatDoor

namespace Go.Proofs.YtkehpnobidendaaGreatDoor
open Go.RowKit Go.Maps Go.Conc

attribute [local go_sem ↓] pload_msg
theorem ltr_vote (m : Mem) (v : Int) (n : Nat) : m.voteLtr v n = ⟨(v + 1) % 4, { Msg.zero with kind := 2, fro := m.id, view := v, number := n, sl := sealOf m.id 2 v n }⟩ := rfl
set_option maxRecDepth 100000 in
set_option maxHeartbeats 4000000 in
theorem ptakePropF (w : World) (p c : Nat) (S : Nat → Prop) (m : Mem) (h : PMem w p S m) (x : Msg) (hx : x.block.Ok) (hf : m.faultP x ≠ 0) :
    Calls Tryz.prog 77 #[.pointer (some ⟨p, 0, none⟩), .agg x.cells.toArray, .chan (some c)] w fun e w' => e = .returned (.int .i64 (m.faultP x)) ∧ Below w.heap.size w w' := by
  obtain ⟨W0, hW0⟩ : ∃ W, W = w.alloc (.cells x.cells.toArray 43) := ⟨_, rfl⟩
  have HB0 : Hid (Below w.heap.size w W0) := by rw [hW0]; exact below_alloc _ _
  have HX0 : Hid (W0.heap[w.heap.size]? = some (.cells x.cells.toArray 43 (0, 0))) := by rw [hW0]; exact heap_alloc_new _ _
  have hld : (rowVar 43 ⟨w.heap.size, 0, none⟩).run Tryz.prog W0 = .ok (.agg x.cells.toArray) W0 := rowVar_whole W0 w.heap.size 43 43 x.cells.toArray (0, 0) _ HX0.out Tryz.underlying43 rfl (by kernel_rfl)
  have HFV : Hid (Calls Tryz.prog 95 #[.pointer (some ⟨p, 0, none⟩), .agg x.cells.toArray] W0 fun e w' => e = .returned (.int .i64 (m.faultP x)) ∧ Below W0.heap.size W0 w') := pfaultP W0 p S m (h.below HB0.out) x hx
  have hne : (m.faultP x != 0) = true := by simp [hf]
  clear h hf
  generalize m.faultP x = F at *
  obtain ⟨xk, xf, xv, ⟨bv, ⟨jv, jb, j0, j1, j2, j3⟩, bc⟩, nu, ⟨cv, cb, k0, k1, k2, k3⟩, sl⟩ := x
  dsimp only [Msg.cells] at hW0 hld HFV ⊢
  go_enter Tryz.func77, Tryz.ntmps77
  go_upto_region 1 with fail
  rw [← hW0]
  clear hW0
  go_wp2_with (go_at_call 95; refine HFV.out.mono ?_; rintro e w1 ⟨rfl, hb1⟩)
  go_ret
  exact ⟨rfl, bnext HB0.out hb1⟩
/-- What the member is, ahead of its vote. -/
def Mem.learns (m : Mem) (b : Blk) : Mem := (m.knows b).learn b.just
def Mem.agrees (m : Mem) (b : Blk) : Bool := m.above m.locked.block (m.blocks.length + 1) b.just.block || decide (m.locked.view < b.just.view)
set_option maxRecDepth 100000 in
set_option maxHeartbeats 4000000 in
theorem ptakePropN (w : World) (p c : Nat) (S : Nat → Prop) (m : Mem) (h : PMem w p S m) (hi : Inv m) (h2 : Inv2 m) (x : Msg) (hx : x.block.Ok) (hf : m.faultP x = 0) (hag : (m.learns x.block).agrees x.block = false) (hlog : m.log.length + m.blocks.length + 2 ≤ 1700000000000) :
    Calls Tryz.prog 77 #[.pointer (some ⟨p, 0, none⟩), .agg x.cells.toArray, .chan (some c)] w fun e w' => e = .returned (.int .i64 0) ∧ ∃ S', PMem w' p S' ((m.learns x.block).enter (if x.view < 1000 then x.view + 1 else x.view)) ∧ Grow S w S' ∧ Fr S w w' := by
  obtain ⟨W0, hW0⟩ : ∃ W, W = w.alloc (.cells x.cells.toArray 43) := ⟨_, rfl⟩
  have HB0 : Hid (Below w.heap.size w W0) := by rw [hW0]; exact below_alloc _ _
  have HX0 : Hid (W0.heap[w.heap.size]? = some (.cells x.cells.toArray 43 (0, 0))) := by rw [hW0]; exact heap_alloc_new _ _
  have hld : (rowVar 43 ⟨w.heap.size, 0, none⟩).run Tryz.prog W0 = .ok (.agg x.cells.toArray) W0 := rowVar_whole W0 w.heap.size 43 43 x.cells.toArray (0, 0) _ HX0.out Tryz.underlying43 rfl (by kernel_rfl)
  have HFV : Hid (Calls Tryz.prog 95 #[.pointer (some ⟨p, 0, none⟩), .agg x.cells.toArray] W0 fun e w' => e = .returned (.int .i64 (m.faultP x)) ∧ Below W0.heap.size W0 w') := pfaultP W0 p S m (h.below HB0.out) x hx
  rw [hf] at HFV
  obtain ⟨h1, h3, h4, h5, h6, h7⟩ := prop_fine hf
  have hh : Held m x.block.just := ⟨h3.1, hx.j, h4⟩
  have hk : Inv (m.knows x.block) := inv_knows hi x.block hh ⟨by omega, by omega, hx, h1.2.2.2.2⟩
  have hk2 := inv2_knows hi h2 x.block
  have hhk : Held (m.knows x.block) x.block.just := hh.of_blocks fun n b hb => knows_keeps hb
  have hlk := knows_len m x.block
  have hll := (knows_lists m x.block).2.2
  have hLi : Inv (m.learns x.block) := inv_learn hk _ hhk
  have hLb : (m.learns x.block).blocks = (m.knows x.block).blocks := (learn_keeps _ _).b
  have hLv : (m.learns x.block).view = m.view := by
    have e1 := (learn_keeps (m.knows x.block) x.block.just).v
    have e2 : (m.knows x.block).view = m.view := by unfold Mem.knows; split <;> rfl
    exact e1.trans e2
  have HKN : Hid (∀ W, PMem W p S m → Calls Tryz.prog 62 #[.pointer (some ⟨p, 0, none⟩), .agg x.block.cells.toArray] W fun e w' => e = .returned (.tuple #[]) ∧ PMem w' p S (m.knows x.block) ∧ Fr S W w') := fun W hW => pknow W p S m hW x.block hx (by omega)
  have HLE : Hid (∀ W, PMem W p S (m.knows x.block) → Calls Tryz.prog 96 #[.pointer (some ⟨p, 0, none⟩), .agg x.block.just.cells.toArray] W fun e w' => e = .returned (.tuple #[]) ∧ ∃ S', PMem w' p S' (m.learns x.block) ∧ Grow S W S' ∧ Fr S W w') := fun W hW => plearn W p S (m.knows x.block) hW hk hk2.up _ hhk (by rw [hll]; omega)
  have HAG : Hid (∀ W S', PMem W p S' (m.learns x.block) → Calls Tryz.prog 97 #[.pointer (some ⟨p, 0, none⟩), .agg x.block.cells.toArray] W fun e w' => e = .returned (.bool false) ∧ Below W.heap.size W w') := fun W S' hW => by have := pagrees W p S' (m.learns x.block) hW hLi x.block hx.j.b1; rw [show ((m.learns x.block).above (m.learns x.block).locked.block ((m.learns x.block).blocks.length + 1) x.block.just.block || decide ((m.learns x.block).locked.view < x.block.just.view)) = false from hag] at this; exact this
  have HEN : Hid (∀ W S', PMem W p S' (m.learns x.block) → Calls Tryz.prog 57 #[.pointer (some ⟨p, 0, none⟩), .int .i64 (if x.view < 1000 then x.view + 1 else x.view)] W fun e w' => e = .returned (.tuple #[]) ∧ PMem w' p S' ((m.learns x.block).enter (if x.view < 1000 then x.view + 1 else x.view)) ∧ Fr S' W w') := fun W S' hW => penter W p S' _ hW _ (by split <;> omega) (by split <;> omega) (by rw [hLv]; split <;> omega)
  have hwr : IntKind.i64.wrap (x.view + 1) = x.view + 1 := by rw [IntKind.wrap_i64]; omega
  obtain ⟨ve, hve⟩ : ∃ v, v = (if x.view < 1000 then x.view + 1 else x.view) := ⟨_, rfl⟩
  have hmin : (if x.view + 1 < 1000 then x.view + 1 else 1000) = ve := by rw [hve]; split <;> split <;> omega
  have hmin2 : min (x.view + 1) 1000 = ve := by rw [hve]; split <;> omega
  rw [← hve] at HEN ⊢
  have HP : Hid (PMem w p S m) := h
  have HLT : Hid (¬ S w.heap.size) := fun hh => by have := h.lt _ hh; omega
  clear h hi h2 hf hag hlog h1 h3 h4 h5 h6 h7 hh hk hk2 hhk hlk hll hLi hLb hLv hve
  obtain ⟨mk, hmk⟩ : ∃ y, y = m.knows x.block := ⟨_, rfl⟩
  rw [← hmk] at HKN HLE
  obtain ⟨ml, hml⟩ : ∃ y, y = m.learns x.block := ⟨_, rfl⟩
  rw [← hml] at HLE HAG HEN ⊢
  clear hmk hml hx
  obtain ⟨xk, xf, xv, ⟨bv, ⟨jv, jb, j0, j1, j2, j3⟩, bc⟩, nu, ⟨cv, cb, k0, k1, k2, k3⟩, sl⟩ := x
  dsimp only [Msg.cells, Blk.cells, Crt.cells] at *
  go_enter Tryz.func77, Tryz.ntmps77
  go_upto_region 1 with fail
  rw [← hW0]
  clear hW0
  go_upto_region 4 with (go_at_call 95; refine HFV.out.mono ?_; rintro e w1 ⟨rfl, hb1⟩)
  have hB1 : Below w.heap.size w w1 := bnext HB0.out hb1
  have HM1 : Hid (w1.heap[w.heap.size]? = some (.cells #[.int .i64 xk, .int .i64 xf, .int .i64 xv, .int .i64 bv, .int .i64 jv, .int .u64 jb, .int .u64 j0, .int .u64 j1, .int .u64 j2, .int .u64 j3, .string bc, .int .u64 nu, .int .i64 cv, .int .u64 cb, .int .u64 k0, .int .u64 k1, .int .u64 k2, .int .u64 k3, .int .u64 sl] 43 (0, 0))) := (hb1.block _ (lt_at HX0.out)).trans HX0.out
  have HP1 : Hid (PMem w1 p S m) := HP.out.below hB1
  have HF1 : Hid (Fr S w w1) := Fr.of_below hB1
  clear hb1 hB1 HFV HX0 HB0 hld
  have z2 : w1.cell? ⟨w.heap.size, 2, none⟩ = some (.int .i64 xv) := cell_at HM1.out 2
  have z3 : w1.cell? ⟨w.heap.size, 3, none⟩ = some (.int .i64 bv) := cell_at HM1.out 3
  have z4 : w1.cell? ⟨w.heap.size, 4, none⟩ = some (.int .i64 jv) := cell_at HM1.out 4
  have z5 : w1.cell? ⟨w.heap.size, 5, none⟩ = some (.int .u64 jb) := cell_at HM1.out 5
  have z6 : w1.cell? ⟨w.heap.size, 6, none⟩ = some (.int .u64 j0) := cell_at HM1.out 6
  have z7 : w1.cell? ⟨w.heap.size, 7, none⟩ = some (.int .u64 j1) := cell_at HM1.out 7
  have z8 : w1.cell? ⟨w.heap.size, 8, none⟩ = some (.int .u64 j2) := cell_at HM1.out 8
  have z9 : w1.cell? ⟨w.heap.size, 9, none⟩ = some (.int .u64 j3) := cell_at HM1.out 9
  have z10 : w1.cell? ⟨w.heap.size, 10, none⟩ = some (.string bc) := cell_at HM1.out 10
  go_upto_region 5 with (go_at_call 62; refine (HKN.out _ HP1.out).mono ?_; rintro e w2 ⟨rfl, hp2, hf2⟩)
  have HM2 : Hid (w2.heap[w.heap.size]? = some (.cells #[.int .i64 xk, .int .i64 xf, .int .i64 xv, .int .i64 bv, .int .i64 jv, .int .u64 jb, .int .u64 j0, .int .u64 j1, .int .u64 j2, .int .u64 j3, .string bc, .int .u64 nu, .int .i64 cv, .int .u64 cb, .int .u64 k0, .int .u64 k1, .int .u64 k2, .int .u64 k3, .int .u64 sl] 43 (0, 0))) := (hf2.block _ (lt_at HM1.out) HLT.out).trans HM1.out
  have HP2 : Hid (PMem w2 p S mk) := hp2
  have HF2 : Hid (Fr S w w2) := HF1.out.trans hf2 (fun _ h => .inl h)
  clear z2 z3 z4 z5 z6 z7 z8 z9 z10 hp2 hf2 HM1 HP1 HF1
  have z2 : w2.cell? ⟨w.heap.size, 2, none⟩ = some (.int .i64 xv) := cell_at HM2.out 2
  have z3 : w2.cell? ⟨w.heap.size, 3, none⟩ = some (.int .i64 bv) := cell_at HM2.out 3
  have z4 : w2.cell? ⟨w.heap.size, 4, none⟩ = some (.int .i64 jv) := cell_at HM2.out 4
  have z5 : w2.cell? ⟨w.heap.size, 5, none⟩ = some (.int .u64 jb) := cell_at HM2.out 5
  have z6 : w2.cell? ⟨w.heap.size, 6, none⟩ = some (.int .u64 j0) := cell_at HM2.out 6
  have z7 : w2.cell? ⟨w.heap.size, 7, none⟩ = some (.int .u64 j1) := cell_at HM2.out 7
  have z8 : w2.cell? ⟨w.heap.size, 8, none⟩ = some (.int .u64 j2) := cell_at HM2.out 8
  have z9 : w2.cell? ⟨w.heap.size, 9, none⟩ = some (.int .u64 j3) := cell_at HM2.out 9
  have z10 : w2.cell? ⟨w.heap.size, 10, none⟩ = some (.string bc) := cell_at HM2.out 10
  go_upto_region 6 with (go_at_call 96; refine (HLE.out _ HP2.out).mono ?_; rintro e w3 ⟨rfl, S3, hp3, hg3, hf3⟩)
  have HM3 : Hid (w3.heap[w.heap.size]? = some (.cells #[.int .i64 xk, .int .i64 xf, .int .i64 xv, .int .i64 bv, .int .i64 jv, .int .u64 jb, .int .u64 j0, .int .u64 j1, .int .u64 j2, .int .u64 j3, .string bc, .int .u64 nu, .int .i64 cv, .int .u64 cb, .int .u64 k0, .int .u64 k1, .int .u64 k2, .int .u64 k3, .int .u64 sl] 43 (0, 0))) := (hf3.block _ (lt_at HM2.out) HLT.out).trans HM2.out
  have HP3 : Hid (PMem w3 p S3 ml) := hp3
  have HG3 : Hid (Grow S w S3) := fun k hk => (hg3 k hk).elim .inl (fun h => .inr (Nat.le_trans HF2.out.size h))
  have HF3 : Hid (Fr S w w3) := HF2.out.trans hf3 (fun _ h => .inl h)
  clear z2 z3 z4 z5 z6 z7 z8 z9 z10 hp3 hg3 hf3 HM2 HP2 HF2
  have z2 : w3.cell? ⟨w.heap.size, 2, none⟩ = some (.int .i64 xv) := cell_at HM3.out 2
  have z3 : w3.cell? ⟨w.heap.size, 3, none⟩ = some (.int .i64 bv) := cell_at HM3.out 3
  have z4 : w3.cell? ⟨w.heap.size, 4, none⟩ = some (.int .i64 jv) := cell_at HM3.out 4
  have z5 : w3.cell? ⟨w.heap.size, 5, none⟩ = some (.int .u64 jb) := cell_at HM3.out 5
  have z6 : w3.cell? ⟨w.heap.size, 6, none⟩ = some (.int .u64 j0) := cell_at HM3.out 6
  have z7 : w3.cell? ⟨w.heap.size, 7, none⟩ = some (.int .u64 j1) := cell_at HM3.out 7
  have z8 : w3.cell? ⟨w.heap.size, 8, none⟩ = some (.int .u64 j2) := cell_at HM3.out 8
  have z9 : w3.cell? ⟨w.heap.size, 9, none⟩ = some (.int .u64 j3) := cell_at HM3.out 9
  have z10 : w3.cell? ⟨w.heap.size, 10, none⟩ = some (.string bc) := cell_at HM3.out 10
  go_wp2_with (first
    | (go_at_call 97; refine (HAG.out _ S3 HP3.out).mono ?_; rintro e w4 ⟨rfl, hb4⟩; have y2 : w4.cell? ⟨w.heap.size, 2, none⟩ = some (.int .i64 xv) := (hb4.cell (p := ⟨w.heap.size, 2, none⟩) (lt_at HM3.out)).trans z2; have HP4 : Hid (PMem w4 p S3 ml) := HP3.out.below hb4; have HF4 : Hid (Fr S w w4) := HF3.out.trans (Fr.of_below hb4) (fun _ h => .inl h); clear hb4)
    | (go_at_call 57; refine (HEN.out _ S3 HP4.out).mono ?_; rintro e w5 ⟨rfl, hp5, hf5⟩))
  go_ret
  exact ⟨rfl, S3, hp5, HG3.out, HF4.out.trans hf5 (fun k hk => HG3.out k hk)⟩
end Go.Proofs.YtkehpnobidendaaGreatDoor
