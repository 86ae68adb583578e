/- parleykeep's cluster as plain data: comes, a tick, a submit, flows, begins, awake. No program in it. parleykeep's cluster, plain: what holds of it (KOk), and that every step keeps it. No program in it. parleykeep's cluster in memory, with its members (KSit). What is put behind the cluster's lists. -/
import Derived.Test.YtkehpnobidendaaDoorM35
import Derived.Test.YtkehpnobidendaaDoorM24
import Derived.Test.YtkehpnobidendaaDoorM26
namespace Go.Proofs.YtkehpnobidendaaDoor
open Go.RowKit

def Clu.memAt (K : Clu) (k : Nat) : Option Mem := K.mem.getD k none
def Clu.setMem (K : Clu) (k : Nat) (m : Mem) : Clu := { K with mem := K.mem.set k (some m) }
/-- What is sent goes out, and what the member has is looked at. -/
def Clu.after (K : Clu) (k : Nat) (m : Mem) (out : List Ltr) : Clu × Bool :=
  let s := (K.setMem k m).sends k out
  (s.1.setWas k m.sta, s.2 && (s.1.was k).grows m.sta)
def Clu.comes (K : Clu) (k : Nat) (x : Msg) : Clu × Bool :=
  match K.memAt k with
  | none => (K, true)
  | some m => K.after k (m.handle x).1 (m.handle x).2.1
def Clu.ticks (K : Clu) (k : Nat) : Clu × Bool :=
  match K.memAt k with
  | none => (K, true)
  | some m => K.after k m.tick.1 m.tick.2
/-- A letter comes to those of the members k .. 3 whom it is for. -/
def Clu.goes (K : Clu) (l : Ltr) : Nat → Nat → Clu × Bool
  | 0, _ => (K, true)
  | f + 1, k => if l.to = k ∨ l.to < 0 then
      let r := K.comes k l.msg
      if r.2 then r.1.goes l f (k + 1) else r
    else K.goes l f (k + 1)
def Clu.flows (K : Clu) (at1 : Nat) : Nat → Clu × Nat × Bool
  | 0 => (K, at1, true)
  | n + 1 => match K.letters[at1]? with
    | none => (K, at1, true)
    | some l =>
      let r := K.goes l 4 0
      if r.2 then r.1.flows (at1 + 1) n else (r.1, at1 + 1, false)
/-- The members k, k + 1 .. tick, so many, as long as all is well. -/
def Clu.allTick (K : Clu) : Nat → Nat → Clu × Bool
  | 0, _ => (K, true)
  | f + 1, k =>
      let r := K.ticks k
      if r.2 then r.1.allTick f (k + 1) else r
def Clu.begins (liar patience : Int) : Clu :=
  ⟨[0, 1, 2, 3].map fun (k : Nat) => if (k : Int) = liar then none else some (Mem.new k patience), liar, [], [Crt.zero], [], Sta.zero, Sta.zero, Sta.zero, Sta.zero, 0, [], false⟩
def bOne : ByteArray := ⟨#[111, 110, 101]⟩
def Clu.submits (K : Clu) (k : Nat) (s : ByteArray) : Clu × Int :=
  match K.memAt k with
  | none => (K, 0)
  | some m => (K.setMem k (m.submit s).1, (m.submit s).2)
def awake1 : Clu := ((Clu.begins (-1) 9).submits 1 bOne).1
def awake2 : Clu × Bool := awake1.allTick 4 0
def awake3 : Clu × Nat × Bool := awake2.1.flows 0 40
end Go.Proofs.YtkehpnobidendaaDoor

namespace Go.Proofs.YtkehpnobidendaaDoor
open Go.RowKit

theorem crt_zero_ok : Crt.zero.Ok := ⟨by decide, by decide, by decide⟩
theorem blk_zero_ok : Blk.zero.Ok := ⟨by decide, by decide, crt_zero_ok, by decide⟩
/-- The numbers of the blocks are of the language. -/
def Kn (m : Mem) : Prop := ∀ y ∈ m.blocks, y.1 < 18446744073709551616
theorem kn_blocks {m m' : Mem} (h : Kn m) (hb : m'.blocks = m.blocks) : Kn m' := fun y hy => h y (by rw [← hb]; exact hy)
theorem kn_knows {m : Mem} (h : Kn m) (b : Blk) : Kn (m.knows b) := by
  unfold Mem.knows
  split
  · exact h
  · intro y hy
    rcases List.mem_append.1 hy with h1 | h1
    · exact h y h1
    · simp at h1; subst h1; exact num_lt _
theorem kn_ends {m : Mem} (h : Kn m) : Kn m.ends.1 := by
  unfold Mem.ends
  split
  · exact kn_knows (m := { m with queue := m.queue.tail, proposed := m.proposed ++ [m.view] }) h _
  · exact h
theorem kn_takes {m : Mem} (h : Kn m) (x : Msg) : Kn (m.takes x).1 := by
  unfold Mem.takes
  split
  · by_cases hf : m.faultP x = 0
    · rw [(prop_fine hf).2.2.2.2.2]
      dsimp only
      have hk := learn_keeps (m.knows x.block) x.block.just
      have h1 : Kn ((m.knows x.block).learn x.block.just) := kn_blocks (kn_knows h _) hk.b
      split
      · exact h1
      · exact h1
    · rw [prop_fault hf]; exact h
  · split
    · by_cases hf : m.faultV x = 0
      · rw [(vote_fine hf).2.2.2.2.2]
        dsimp only
        split
        · split
          · exact kn_blocks (m' := Mem.learn _ _) h (learn_keeps _ _).b
          · exact kn_blocks h (learn_keeps _ _).b
        · exact h
      · rw [vote_fault hf]; exact h
    · split
      · by_cases hf : m.faultE x = 0
        · rw [(enter_fine hf).2.2.2.2.2]
          dsimp only
          split
          · exact kn_blocks (m' := Mem.learn _ _) h (learn_keeps _ _).b
          · exact kn_blocks h (learn_keeps _ _).b
        · rw [enter_fault hf]; exact h
      · exact h
/-- What holds of a member, with a bound on its lists. -/
structure MOk (m : Mem) (n : Nat) : Prop where
  iv : Inv m
  i2 : Inv2 m
  b : m.blocks.length ≤ n
  v : m.votes.length ≤ n
  e : m.enters.length + m.proposed.length ≤ n
  w : m.waited ≤ 20000000000000 + n
  kn : Kn m
theorem MOk.mono {m : Mem} {n k : Nat} (h : MOk m n) (hk : n ≤ k) : MOk m k := ⟨h.iv, h.i2, Nat.le_trans h.b hk, Nat.le_trans h.v hk, Nat.le_trans h.e hk, by have := h.w; omega, h.kn⟩
theorem MOk.small {m : Mem} {n : Nat} (h : MOk m n) (hn : n ≤ 800000000000) : Small m := by
  have h1 := log_len h.iv
  have h2 := h.b
  have h3 := h.v
  have h4 := h.e
  exact ⟨by omega, by omega, by omega⟩
theorem MOk.lgk {m : Mem} {n : Nat} (h : MOk m n) : ∀ k ∈ m.log, k < 18446744073709551616 := fun k hk => by
  obtain ⟨b, hb⟩ := Option.isSome_iff_exists.1 (h.iv.lg k hk).2
  exact h.kn _ (find_mem hb)
theorem mok_new (i p : Int) (h : 0 ≤ i ∧ i ≤ 3 ∧ 1 ≤ p ∧ p ≤ 100) : MOk (Mem.new i p) 1 := ⟨inv_new i p h, inv2_new i p, by simp [Mem.new], by simp [Mem.new], by simp [Mem.new], by simp [Mem.new], fun y hy => by simp [Mem.new] at hy; subst hy; decide⟩
theorem kends_lists (m : Mem) : m.ends.1.enters = m.enters ∧ m.ends.1.votes = m.votes ∧ m.ends.1.waited = m.waited ∧ m.ends.1.proposed.length ≤ m.proposed.length + 1 ∧ m.ends.1.blocks.length ≤ m.blocks.length + 1 ∧ m.ends.2.length ≤ 1 := by
  cases hm : m.may with
  | false => unfold Mem.ends; rw [if_neg (by rw [hm]; decide)]; exact ⟨rfl, rfl, rfl, by simp, by simp, by simp⟩
  | true =>
    unfold Mem.ends
    rw [if_pos hm]
    dsimp only
    unfold Mem.knows
    split
    · exact ⟨rfl, rfl, rfl, by simp, by simp, by simp⟩
    · exact ⟨rfl, rfl, rfl, by simp, by simp, by simp⟩
theorem kheadD_le {q : List ByteArray} (h : ∀ c ∈ q, c.size ≤ 16) : (q.headD ⟨#[]⟩).size ≤ 140737488351232 := by
  cases q with
  | nil => show (0 : Nat) ≤ _; omega
  | cons a r => have := h a (by simp); show a.size ≤ _; omega
theorem kends_ok {m : Mem} (h : Inv m) : ∀ l ∈ m.ends.2, l.Ok := by
  intro l hl
  have h0 := h.v0
  have h1 := h.v1
  unfold Mem.ends at hl
  split at hl
  · simp at hl
    subst hl
    refine ⟨⟨⟨?_, ?_, h.hi.ok, kheadD_le h.qc⟩, by show (0 : Nat) < _; decide, crt_zero_ok⟩, ?_, ?_⟩
    · show -9223372036854775808 ≤ m.view; omega
    · show m.view ≤ 9223372036854775807; omega
    · show -9223372036854775808 ≤ m.view; omega
    · show m.view ≤ 9223372036854775807; omega
  · simp at hl
theorem takes_more (m : Mem) (x : Msg) : (m.takes x).1.votes.length ≤ m.votes.length + 1 ∧ ((m.takes x).1.waited = m.waited ∨ (m.takes x).1.waited = 0) := by
  unfold Mem.takes
  split
  · by_cases hf : m.faultP x = 0
    · rw [(prop_fine hf).2.2.2.2.2]
      dsimp only
      have hk := learn_keeps (m.knows x.block) x.block.just
      have e1 := (knows_lists m x.block).1
      split
      · exact ⟨by show ((m.knows x.block).learn x.block.just).votes.length ≤ _; rw [hk.vs, e1]; omega, .inr rfl⟩
      · exact ⟨by show ((m.knows x.block).learn x.block.just).votes.length ≤ _; rw [hk.vs, e1]; omega, .inr rfl⟩
    · rw [prop_fault hf]; exact ⟨by simp, .inl rfl⟩
  · split
    · by_cases hf : m.faultV x = 0
      · rw [(vote_fine hf).2.2.2.2.2]
        dsimp only
        split
        · split
          · exact ⟨by show (Mem.learn _ _).votes.length ≤ _; rw [(learn_keeps _ _).vs]; simp, .inr rfl⟩
          · exact ⟨by rw [(learn_keeps _ _).vs]; simp, .inl (learn_keeps _ _).w⟩
        · exact ⟨by simp, .inl rfl⟩
      · rw [vote_fault hf]; exact ⟨by simp, .inl rfl⟩
    · split
      · by_cases hf : m.faultE x = 0
        · rw [(enter_fine hf).2.2.2.2.2]
          dsimp only
          split
          · exact ⟨by show (Mem.learn _ _).votes.length ≤ _; rw [(learn_keeps _ _).vs]; simp, .inr rfl⟩
          · exact ⟨by rw [(learn_keeps _ _).vs]; simp, .inl (learn_keeps _ _).w⟩
        · rw [enter_fault hf]; exact ⟨by simp, .inl rfl⟩
      · exact ⟨by simp, .inl rfl⟩
theorem mok_handle {m : Mem} {n : Nat} (h : MOk m n) (x : Msg) (hx : x.Ok) : MOk (m.handle x).1 (n + 2) := by
  have h1 := handle_len m x
  have h2 := kends_lists (m.takes x).1
  have h3 := takes_more m x
  have h4 := takes_ep m x
  have h5 := h.b
  have h6 := h.v
  have h7 := h.e
  have h8 := h.w
  refine ⟨inv_handle h.iv x hx, inv2_handle h.iv h.i2 x hx, by omega, ?_, ?_, ?_, kn_ends (kn_takes h.kn x)⟩
  · show (m.takes x).1.ends.1.votes.length ≤ _; rw [h2.2.1]; omega
  · show (m.takes x).1.ends.1.enters.length + (m.takes x).1.ends.1.proposed.length ≤ _; rw [h2.1]; have := h2.2.2.2.1; omega
  · show (m.takes x).1.ends.1.waited ≤ _; rw [h2.2.2.1]; rcases h3.2 with h | h <;> rw [h] <;> omega
theorem handle_out (m : Mem) (x : Msg) : (m.handle x).2.1.length ≤ 2 := by
  have h1 := takes_out m x
  have h2 := (kends_lists (m.takes x).1).2.2.2.2.2
  show ((m.takes x).2.1 ++ (m.takes x).1.ends.2).length ≤ 2
  rw [List.length_append]; omega
theorem takes_ok {m : Mem} (x : Msg) : ∀ l ∈ (m.takes x).2.1, l.Ok := by
  intro l hl
  unfold Mem.takes at hl
  split at hl
  · by_cases hf : m.faultP x = 0
    · obtain ⟨a, _, _, _, _, b⟩ := prop_fine hf
      rw [b] at hl
      dsimp only at hl
      split at hl
      · simp at hl
        subst hl
        exact ⟨⟨blk_zero_ok, num_lt _, crt_zero_ok⟩, by show -9223372036854775808 ≤ x.view; omega, by show x.view ≤ 9223372036854775807; omega⟩
      · simp at hl
    · rw [prop_fault hf] at hl; simp at hl
  · split at hl
    · simp at hl
    · split at hl <;> simp at hl
theorem handle_ok {m : Mem} (h : Inv m) (x : Msg) (hx : x.Ok) : ∀ l ∈ (m.handle x).2.1, l.Ok := by
  intro l hl
  have hl' : l ∈ (m.takes x).2.1 ++ (m.takes x).1.ends.2 := hl
  rcases List.mem_append.1 hl' with h1 | h1
  · exact takes_ok x l h1
  · exact kends_ok (inv_takes h x hx) l h1
theorem kinv_wait {m : Mem} (h : Inv m) : Inv m.wait.1 := inv_wait h
theorem tick_ok {m : Mem} (h : Inv m) : ∀ l ∈ m.tick.2, l.Ok := by
  intro l hl
  have hl' : l ∈ m.wait.2 ++ m.wait.1.ends.2 := hl
  rcases List.mem_append.1 hl' with h1 | h1
  · by_cases hc : m.patience ≤ m.waited + 1 ∧ m.view < 1000
    · rw [wait_yes hc] at h1; simp at h1; subst h1
      have h0 := h.v0
      have h1 := h.v1
      exact ⟨⟨blk_zero_ok, by show (0 : Nat) < _; decide, h.hi.ok⟩, by show -9223372036854775808 ≤ m.view + 1; omega, by show m.view + 1 ≤ 9223372036854775807; omega⟩
    · rw [wait_no hc] at h1; simp at h1
  · exact kends_ok (inv_wait h) l h1
theorem tick_out (m : Mem) : m.tick.2.length ≤ 2 := by
  have h1 := (wait_lists m).2.2.2
  have h2 := (kends_lists m.wait.1).2.2.2.2.2
  show (m.wait.2 ++ m.wait.1.ends.2).length ≤ 2
  rw [List.length_append]; omega
theorem mok_tick {m : Mem} {n : Nat} (h : MOk m n) : MOk m.tick.1 (n + 2) := by
  have hw := wait_lists m
  have he := kends_lists m.wait.1
  have h5 := h.b
  have h6 := h.v
  have h7 := h.e
  have h8 := h.w
  have h9 := h.iv.w0
  have hv : m.wait.1.votes = m.votes ∧ m.wait.1.waited ≤ m.waited + 1 := by
    by_cases hc : m.patience ≤ m.waited + 1 ∧ m.view < 1000
    · rw [wait_yes hc]; exact ⟨rfl, by show (0 : Int) ≤ m.waited + 1; omega⟩
    · rw [wait_no hc]; exact ⟨rfl, by show m.waited + 1 ≤ m.waited + 1; omega⟩
  refine ⟨inv_tick h.iv, inv2_tick h.iv h.i2, ?_, ?_, ?_, ?_, kn_ends (kn_blocks h.kn hw.2.2.1)⟩
  · show m.wait.1.ends.1.blocks.length ≤ _; have := he.2.2.2.2.1; rw [hw.2.2.1] at this; omega
  · show m.wait.1.ends.1.votes.length ≤ _; rw [he.2.1, hv.1]; omega
  · show m.wait.1.ends.1.enters.length + m.wait.1.ends.1.proposed.length ≤ _; have := he.2.2.2.1; rw [hw.2.1] at this; rw [he.1, hw.1]; omega
  · show m.wait.1.ends.1.waited ≤ _; rw [he.2.2.1]; have := hv.2; omega
theorem mok_submit {m : Mem} {n : Nat} (h : MOk m n) (c : ByteArray) : MOk (m.submit c).1 n := by
  have hs : (m.submit c).1.enters = m.enters ∧ (m.submit c).1.votes = m.votes ∧ (m.submit c).1.waited = m.waited ∧ (m.submit c).1.proposed = m.proposed ∧ (m.submit c).1.blocks = m.blocks := by
    unfold Mem.submit
    split
    · exact ⟨rfl, rfl, rfl, rfl, rfl⟩
    · split <;> exact ⟨rfl, rfl, rfl, rfl, rfl⟩
  exact ⟨inv_submit h.iv c, inv2_submit h.i2 c, by rw [hs.2.2.2.2]; exact h.b, by rw [hs.2.1]; exact h.v, by rw [hs.1, hs.2.2.2.1]; exact h.e, by rw [hs.2.2.1]; exact h.w, kn_blocks h.kn hs.2.2.2.2⟩

/-! The cluster. -/
structure CKeep (K K' : Clu) : Prop where
  m : K'.mem = K.mem
  l : K'.liar = K.liar
  a0 : K'.w0 = K.w0
  a1 : K'.w1 = K.w1
  a2 : K'.w2 = K.w2
  a3 : K'.w3 = K.w3
  c : K'.count = K.count
theorem CKeep.refl (K : Clu) : CKeep K K := ⟨rfl, rfl, rfl, rfl, rfl, rfl, rfl⟩
theorem CKeep.trans {a b c : Clu} (h : CKeep a b) (g : CKeep b c) : CKeep a c := ⟨g.m.trans h.m, g.l.trans h.l, g.a0.trans h.a0, g.a1.trans h.a1, g.a2.trans h.a2, g.a3.trans h.a3, g.c.trans h.c⟩
theorem CKeep.was {K K' : Clu} (h : CKeep K K') (k : Nat) : K'.was k = K.was k := by unfold Clu.was; rw [h.a0, h.a1, h.a2, h.a3]
theorem meets_ck (K : Clu) (b : Blk) : CKeep K (K.meets b) := by
  unfold Clu.meets
  split <;> exact ⟨rfl, rfl, rfl, rfl, rfl, rfl, rfl⟩
/-- What a letter that was sent leaves. -/
structure Sent (K K' : Clu) (ls : List Ltr) (n : Nat) : Prop where
  ck : CKeep K K'
  ok : K'.Ok
  len : K'.Len n
  lt : ∀ l ∈ K'.letters, l ∈ K.letters ∨ l ∈ ls
theorem send1_sent {K : Clu} {n : Nat} (h : K.Ok) (hl : K.Len n) (f : Int) (hf : 0 ≤ f ∧ f ≤ 3) (l : Ltr) (hk : l.Ok) : Sent K (K.send1 f l).1 [l] (n + 1) := by
  have h1 := hl.lt
  have h2 := hl.ct
  have h3 := hl.vt
  have h4 := hl.bl
  have hmem : ∀ x ∈ K.letters ++ [l], x ∈ K.letters ∨ x ∈ [l] := fun x hx => List.mem_append.1 hx
  by_cases hb : l.msg.fro ≠ f ∨ l.to < -1 ∨ 3 < l.to
  · rw [send1_bad hb]; exact ⟨CKeep.refl _, h, hl.mono (by omega), fun x hx => .inl hx⟩
  by_cases hp : l.msg.kind = 1
  · rw [send1_prop hb hp]
    have hm := meets_keep (K.addL l) l.msg.block
    refine ⟨CKeep.trans (b := K.addL l) ⟨rfl, rfl, rfl, rfl, rfl, rfl, rfl⟩ (meets_ck _ _), kmeets_ok (addL_ok h l) _ hk.1.b, ⟨?_, ?_, ?_, ?_⟩, fun x hx => ?_⟩
    · show ((K.addL l).meets l.msg.block).letters.length ≤ _; rw [hm.1]; simp [Clu.addL]; omega
    · show ((K.addL l).meets l.msg.block).certs.length ≤ _; rw [hm.2.1]; exact Nat.le_succ_of_le h2
    · show ((K.addL l).meets l.msg.block).voted.length ≤ _; rw [hm.2.2.1]; exact Nat.le_succ_of_le h3
    · have h5 := hm.2.2.2.2.2; have h6 : (K.addL l).blocks.length = K.blocks.length := rfl; show ((K.addL l).meets l.msg.block).blocks.length ≤ _; omega
    · have hx' : x ∈ ((K.addL l).meets l.msg.block).letters := hx
      rw [hm.1] at hx'; exact hmem x hx'
  by_cases h2k : l.msg.kind = 2
  · cases ha : K.voted.any (fun t => t.fro == f && t.view == l.msg.view) with
    | true =>
      rw [send1_twice hb h2k ha]
      exact ⟨⟨rfl, rfl, rfl, rfl, rfl, rfl, rfl⟩, addL_ok h l, ⟨by simp [Clu.addL]; omega, Nat.le_succ_of_le h2, Nat.le_succ_of_le h3, Nat.le_succ_of_le h4⟩, hmem⟩
    | false =>
      rw [send1_vote hb h2k ha]
      have hv : Vt.Ok ⟨f, l.msg.view, l.msg.number⟩ := ⟨hf.1, hf.2, hk.2.1, hk.2.2, hk.1.n⟩
      have hv2 := addV_ok (addL_ok h l) hv
      dsimp only
      split
      · exact ⟨⟨rfl, rfl, rfl, rfl, rfl, rfl, rfl⟩, addC_ok hv2 _, ⟨by simp [Clu.addC, Clu.addV, Clu.addL]; omega, by simp [Clu.addC, Clu.addV, Clu.addL]; omega, by simp [Clu.addC, Clu.addV, Clu.addL]; omega, Nat.le_succ_of_le h4⟩, hmem⟩
      · exact ⟨⟨rfl, rfl, rfl, rfl, rfl, rfl, rfl⟩, hv2, ⟨by simp [Clu.addV, Clu.addL]; omega, Nat.le_succ_of_le h2, by simp [Clu.addV, Clu.addL]; omega, Nat.le_succ_of_le h4⟩, hmem⟩
  · rw [send1_other hb hp h2k]
    exact ⟨⟨rfl, rfl, rfl, rfl, rfl, rfl, rfl⟩, addL_ok h l, ⟨by simp [Clu.addL]; omega, Nat.le_succ_of_le h2, Nat.le_succ_of_le h3, Nat.le_succ_of_le h4⟩, hmem⟩
theorem sends_sent (f : Int) (hf : 0 ≤ f ∧ f ≤ 3) : ∀ (ls : List Ltr) (K : Clu) (n : Nat), K.Ok → K.Len n → (∀ l ∈ ls, l.Ok) → Sent K (K.sends f ls).1 ls (n + ls.length)
  | [], K, n, h, hl, _ => ⟨CKeep.refl _, h, hl, fun x hx => .inl hx⟩
  | l :: r, K, n, h, hl, hk => by
    have h1 := send1_sent h hl f hf l (hk l (by simp))
    unfold Clu.sends
    split
    · have h2 := sends_sent f hf r (K.send1 f l).1 (n + 1) h1.ok h1.len (fun x hx => hk x (List.mem_cons_of_mem _ hx))
      refine ⟨h1.ck.trans h2.ck, h2.ok, h2.len.mono (by simp; omega), fun x hx => ?_⟩
      rcases h2.lt x hx with h3 | h3
      · rcases h1.lt x h3 with h4 | h4
        · exact .inl h4
        · simp at h4; exact .inr (by simp [h4])
      · exact .inr (List.mem_cons_of_mem _ h3)
    · refine ⟨h1.ck, h1.ok, h1.len.mono (by simp), fun x hx => ?_⟩
      rcases h1.lt x hx with h4 | h4
      · exact .inl h4
      · simp at h4; exact .inr (by simp [h4])
/-- What holds of the cluster, with a bound on its lists. -/
structure KOk (K : Clu) (n : Nat) : Prop where
  ok : K.Ok
  len : K.Len n
  lt : ∀ l ∈ K.letters, l.Ok
  ml : K.mem.length = 4
  ms : ∀ m, some m ∈ K.mem → MOk m n
  wl : ∀ k, (K.was k).log.length ≤ n
theorem KOk.mono {K : Clu} {n k : Nat} (h : KOk K n) (hk : n ≤ k) : KOk K k := ⟨h.ok, h.len.mono hk, h.lt, h.ml, fun m hm => (h.ms m hm).mono hk, fun i => Nat.le_trans (h.wl i) hk⟩
theorem KOk.at' {K : Clu} {n k : Nat} (h : KOk K n) {m : Mem} (hm : K.memAt k = some m) : MOk m n := by
  unfold Clu.memAt at hm
  by_cases hk : k < K.mem.length
  · rw [List.getD_eq_getElem?_getD, List.getElem?_eq_getElem hk] at hm
    exact h.ms m (by rw [← show K.mem[k] = some m from hm]; exact List.getElem_mem hk)
  · rw [List.getD_eq_getElem?_getD, List.getElem?_eq_none (by omega)] at hm; cases hm
theorem setWas_was (K : Clu) (k i : Nat) (s : Sta) : (K.setWas k s).was i = s ∨ (K.setWas k s).was i = K.was i := by
  unfold Clu.setWas
  by_cases h0 : k = 0
  · rw [if_pos h0]; unfold Clu.was; dsimp only; split
    · exact .inl rfl
    · exact .inr rfl
  rw [if_neg h0]
  by_cases h1 : k = 1
  · rw [if_pos h1]; unfold Clu.was; dsimp only; split
    · exact .inr rfl
    · split
      · exact .inl rfl
      · exact .inr rfl
  rw [if_neg h1]
  by_cases h2 : k = 2
  · rw [if_pos h2]; unfold Clu.was; dsimp only; split
    · exact .inr rfl
    · split
      · exact .inr rfl
      · split
        · exact .inl rfl
        · exact .inr rfl
  rw [if_neg h2]; unfold Clu.was; dsimp only; split
  · exact .inr rfl
  · split
    · exact .inr rfl
    · split
      · exact .inr rfl
      · exact .inl rfl
structure WKeep (K K' : Clu) : Prop where
  l : K'.letters = K.letters
  c : K'.certs = K.certs
  v : K'.voted = K.voted
  b : K'.blocks = K.blocks
  m : K'.mem = K.mem
  i : K'.liar = K.liar
  o : K'.over = K.over
  n : K'.count = K.count
theorem setWas_keep (K : Clu) (k : Nat) (s : Sta) : WKeep K (K.setWas k s) := by
  unfold Clu.setWas
  split
  · exact ⟨rfl, rfl, rfl, rfl, rfl, rfl, rfl, rfl⟩
  · split
    · exact ⟨rfl, rfl, rfl, rfl, rfl, rfl, rfl, rfl⟩
    · split <;> exact ⟨rfl, rfl, rfl, rfl, rfl, rfl, rfl, rfl⟩
theorem setMem_mem {K : Clu} {k : Nat} {m x : Mem} (h : some x ∈ (K.setMem k m).mem) : x = m ∨ some x ∈ K.mem := by
  have h' : some x ∈ K.mem.set k (some m) := h
  rcases List.mem_or_eq_of_mem_set h' with h1 | h1
  · exact .inr h1
  · exact .inl (Option.some.inj h1)
theorem setMem_kok {K : Clu} {n : Nat} (h : KOk K n) (k : Nat) {m : Mem} (hm : MOk m n) : KOk (K.setMem k m) n :=
  ⟨⟨h.ok.bl, h.ok.vt, h.ok.l0, h.ok.l1⟩, ⟨h.len.lt, h.len.ct, h.len.vt, h.len.bl⟩, h.lt, by simp [Clu.setMem, h.ml], fun x hx => by
    rcases setMem_mem hx with rfl | h1
    · exact hm
    · exact h.ms x h1, h.wl⟩
theorem after_kok {K : Clu} {n k : Nat} (h : KOk K n) (hk : k < 4) {m : Mem} (hm : MOk m (n + 2)) {out : List Ltr} (ho : ∀ l ∈ out, l.Ok) (hl : out.length ≤ 2) : KOk (K.after k m out).1 (n + 2) := by
  have h0 : KOk (K.setMem k m) (n + 2) := setMem_kok (h.mono (by omega)) k hm
  have h1 := sends_sent (k : Int) ⟨by omega, by omega⟩ out (K.setMem k m) n h0.ok ⟨h.len.lt, h.len.ct, h.len.vt, h.len.bl⟩ ho
  have h2 := setWas_keep ((K.setMem k m).sends k out).1 k m.sta
  refine ⟨⟨?_, ?_, ?_, ?_⟩, ⟨?_, ?_, ?_, ?_⟩, ?_, ?_, ?_, fun i => ?_⟩
  · rw [show (K.after k m out).1.blocks = _ from h2.b]; exact h1.ok.bl
  · rw [show (K.after k m out).1.voted = _ from h2.v]; exact h1.ok.vt
  · rw [show (K.after k m out).1.liar = _ from h2.i]; exact h1.ok.l0
  · rw [show (K.after k m out).1.liar = _ from h2.i]; exact h1.ok.l1
  · rw [show (K.after k m out).1.letters = _ from h2.l]; have := h1.len.lt; omega
  · rw [show (K.after k m out).1.certs = _ from h2.c]; have := h1.len.ct; omega
  · rw [show (K.after k m out).1.voted = _ from h2.v]; have := h1.len.vt; omega
  · rw [show (K.after k m out).1.blocks = _ from h2.b]; have := h1.len.bl; omega
  · rw [show (K.after k m out).1.letters = _ from h2.l]
    intro l hl
    rcases h1.lt l hl with h3 | h3
    · exact h.lt l h3
    · exact ho l h3
  · rw [show (K.after k m out).1.mem = _ from h2.m, h1.ck.m]; exact h0.ml
  · rw [show (K.after k m out).1.mem = _ from h2.m, h1.ck.m]; exact h0.ms
  · rcases setWas_was ((K.setMem k m).sends k out).1 k i m.sta with h3 | h3
    · rw [show (K.after k m out).1.was i = _ from h3]
      have h4 := log_len hm.iv
      have h5 := hm.b
      simp [Mem.sta, Mem.commands]; omega
    · rw [show (K.after k m out).1.was i = _ from h3, h1.ck.was]
      exact h0.wl i
theorem comes_kok {K : Clu} {n k : Nat} (h : KOk K n) (hk : k < 4) {x : Msg} (hx : x.Ok) : KOk (K.comes k x).1 (n + 2) := by
  unfold Clu.comes
  split
  · exact h.mono (by omega)
  · rename_i m hm
    have h1 := h.at' hm
    exact after_kok h hk (mok_handle h1 x hx) (handle_ok h1.iv x hx) (handle_out m x)
theorem ticks_kok {K : Clu} {n k : Nat} (h : KOk K n) (hk : k < 4) : KOk (K.ticks k).1 (n + 2) := by
  unfold Clu.ticks
  split
  · exact h.mono (by omega)
  · rename_i m hm
    have h1 := h.at' hm
    exact after_kok h hk (mok_tick h1) (tick_ok h1.iv) (tick_out m)
theorem submits_kok {K : Clu} {n k : Nat} (h : KOk K n) (s : ByteArray) : KOk (K.submits k s).1 n := by
  unfold Clu.submits
  split
  · exact h
  · rename_i m hm
    exact setMem_kok h k (mok_submit (h.at' hm) s)
theorem goes_kok (l : Ltr) (hl : l.msg.Ok) : ∀ (f k : Nat) (K : Clu) (n : Nat), f + k = 4 → KOk K n → KOk (K.goes l f k).1 (n + f * 2)
  | 0, _, _, _, _, h => h
  | f + 1, k, K, n, hk, h => by
    unfold Clu.goes
    split
    · have h1 := comes_kok (k := k) h (by omega) hl
      dsimp only
      split
      · exact (goes_kok l hl f (k + 1) _ _ (by omega) h1).mono (by omega)
      · exact h1.mono (by omega)
    · exact (goes_kok l hl f (k + 1) K n (by omega) h).mono (by omega)
theorem begins_kok (liar patience : Int) (hl : -1 ≤ liar ∧ liar ≤ 3) (hp : 1 ≤ patience ∧ patience ≤ 100) : KOk (Clu.begins liar patience) 1 := by
  refine ⟨⟨fun o ho => (by cases ho), fun o ho => (by cases ho), hl.1, hl.2⟩, ⟨by simp [Clu.begins], by simp [Clu.begins], by simp [Clu.begins], by simp [Clu.begins]⟩, fun o ho => (by cases ho), rfl, fun m hm => ?_, fun k => ?_⟩
  · simp only [Clu.begins, List.mem_map] at hm
    obtain ⟨k, hk, h1⟩ := hm
    split at h1
    · cases h1
    · cases Option.some.inj h1
      refine mok_new k patience ⟨by omega, ?_, hp.1, hp.2⟩
      simp at hk; omega
  · unfold Clu.was Clu.begins; dsimp only
    split
    · exact Nat.zero_le _
    · split
      · exact Nat.zero_le _
      · split <;> exact Nat.zero_le _
end Go.Proofs.YtkehpnobidendaaDoor

namespace Go.Proofs.YtkehpnobidendaaDoor
open Go.RowKit

/-- A member of the cluster in memory, or none. -/
def KAt (w : World) (S : Nat → Prop) : Option Nat → Option Mem → Prop
  | none, none => True
  | some pm, some m => PMem w pm S m
  | _, _ => False
def updA (A : Nat → Nat → Prop) (i : Nat) (S : Nat → Prop) : Nat → Nat → Prop := fun j => if j = i then S else A j
theorem updA_at (A : Nat → Nat → Prop) (i : Nat) (S : Nat → Prop) : updA A i S i = S := if_pos rfl
theorem updA_ne (A : Nat → Nat → Prop) {i j : Nat} (S : Nat → Prop) (h : j ≠ i) : updA A i S j = A j := if_neg h
/-- All blocks of the cluster. -/
def UA (A : Nat → Nat → Prop) : Nat → Prop := fun b => ∃ i, i < 5 ∧ A i b
structure KSit (w : World) (p : Nat) (A : Nat → Nat → Prop) (ps : List (Option Nat)) (K : Clu) : Prop where
  k : KMem w p (A 0) ps K
  l : ps.length = 4
  mem : ∀ i, i < 4 → KAt w (A (i + 1)) (ps.getD i none) (K.memAt i)
  lt : ∀ i b, i < 5 → A i b → b < w.heap.size
  z : ∀ i, i < 5 → ¬ A i 0
  dis : ∀ i j b, i < 5 → j < 5 → A i b → A j b → i = j
section
variable {w w' : World} {p : Nat} {A : Nat → Nat → Prop} {ps : List (Option Nat)} {K : Clu}
theorem KAt.below {S : Nat → Prop} {o : Option Nat} {om : Option Mem} (h : KAt w S o om) (hf : Below w.heap.size w w') : KAt w' S o om := by
  cases o with
  | none => cases om with
    | none => trivial
    | some m => exact h.elim
  | some q => cases om with
    | none => exact h.elim
    | some m => exact PMem.below h hf
theorem KAt.fr {S Z : Nat → Prop} {o : Option Nat} {om : Option Mem} (h : KAt w S o om) (hf : Fr Z w w') (hz : ∀ k, S k → ¬ Z k) (hz0 : ¬ Z 0) : KAt w' S o om := by
  cases o with
  | none => cases om with
    | none => trivial
    | some m => exact h.elim
  | some q => cases om with
    | none => exact h.elim
    | some m => exact PMem.fr h hf hz hz0
theorem KSit.below (h : KSit w p A ps K) (hf : Below w.heap.size w w') : KSit w' p A ps K :=
  ⟨h.k.below hf, h.l, fun i hi => (h.mem i hi).below hf, fun i b hi hb => Nat.lt_of_lt_of_le (h.lt i b hi hb) hf.size, h.z, h.dis⟩
theorem KSit.heap (h : KSit w p A ps K) (hf : Below w.heap.size w w') : KSit w' p A ps K := h.below hf
/-- A frame beside the cluster. -/
theorem KSit.fr {Z : Nat → Prop} (h : KSit w p A ps K) (hf : Fr Z w w') (hz : ∀ k, UA A k → ¬ Z k) (hz0 : ¬ Z 0) : KSit w' p A ps K :=
  ⟨h.k.fr hf (fun k hk => hz k ⟨0, by omega, hk⟩) hz0, h.l, fun i hi => (h.mem i hi).fr hf (fun k hk => hz k ⟨i + 1, by omega, hk⟩) hz0, fun i b hi hb => Nat.lt_of_lt_of_le (h.lt i b hi hb) hf.size, h.z, h.dis⟩
theorem KSit.other (h : KSit w p A ps K) {i : Nat} (hi : i < 5) {S' : Nat → Prop} (hg : Grow (A i) w S') (hl : ∀ k, S' k → k < w'.heap.size) (hz : ¬ S' 0) (hs : w.heap.size ≤ w'.heap.size) :
    (∀ j b, j < 5 → updA A i S' j b → b < w'.heap.size) ∧ (∀ j, j < 5 → ¬ updA A i S' j 0) ∧ (∀ j k b, j < 5 → k < 5 → updA A i S' j b → updA A i S' k b → j = k) := by
  refine ⟨fun j b hj hb => ?_, fun j hj hb => ?_, fun j k b hj hk h1 h2 => ?_⟩
  · by_cases e : j = i
    · subst e; rw [updA_at] at hb; exact hl b hb
    · rw [updA_ne A S' e] at hb; have := h.lt j b hj hb; omega
  · by_cases e : j = i
    · subst e; rw [updA_at] at hb; exact hz hb
    · rw [updA_ne A S' e] at hb; exact h.z j hj hb
  · by_cases e : j = i
    · by_cases e2 : k = i
      · rw [e, e2]
      · subst e
        rw [updA_at] at h1; rw [updA_ne A S' e2] at h2
        rcases hg b h1 with h3 | h3
        · exact h.dis j k b hj hk h3 h2
        · have := h.lt k b hk h2; omega
    · by_cases e2 : k = i
      · subst e2
        rw [updA_at] at h2; rw [updA_ne A S' e] at h1
        rcases hg b h2 with h3 | h3
        · exact h.dis j k b hj hk h1 h3
        · have := h.lt j b hj h1; omega
      · rw [updA_ne A S' e] at h1; rw [updA_ne A S' e2] at h2; exact h.dis j k b hj hk h1 h2
theorem grow_u {i : Nat} {S' : Nat → Prop} (hg : Grow (A i) w S') : Grow (UA A) w (UA (updA A i S')) := by
  rintro b ⟨j, hj, hb⟩
  by_cases e : j = i
  · subst e; rw [updA_at] at hb
    rcases hg b hb with h | h
    · exact .inl ⟨j, hj, h⟩
    · exact .inr h
  · rw [updA_ne A S' e] at hb; exact .inl ⟨j, hj, hb⟩
theorem fr_u {i : Nat} (hi : i < 5) (hf : Fr (A i) w w') : Fr (UA A) w w' := hf.mono (fun _ hb => ⟨i, hi, hb⟩)
theorem KSit.some1 (h : KSit w p A ps K) {i : Nat} (hi : i < 4) {m : Mem} (he : K.memAt i = some m) : ∃ pm, ps.getD i none = some pm ∧ PMem w pm (A (i + 1)) m := by
  have h1 := h.mem i hi
  rw [he] at h1
  cases hq : ps.getD i none with
  | none => rw [hq] at h1; exact h1.elim
  | some q => rw [hq] at h1; exact ⟨q, rfl, h1⟩
theorem KSit.nil (h : KSit w p A ps K) {i : Nat} (hi : i < 4) (he : K.memAt i = none) : ps.getD i none = none := by
  have h1 := h.mem i hi
  rw [he] at h1
  cases hq : ps.getD i none with
  | none => rfl
  | some q => rw [hq] at h1; exact h1.elim
theorem memAt_set {K : Clu} {k i : Nat} {m : Mem} (hk : k < K.mem.length) : (K.setMem k m).memAt i = if i = k then some m else K.memAt i := by
  unfold Clu.memAt Clu.setMem
  simp only [List.getD_eq_getElem?_getD, List.getElem?_set]
  by_cases e : k = i
  · subst e; simp [hk]
  · simp [e, Ne.symm e]
theorem KMem.mem {S : Nat → Prop} (h : KMem w p S ps K) (k : Nat) (m : Mem) : KMem w p S ps (K.setMem k m) := ⟨h.ex, h.tab, h.t0⟩
/-- A member has turned. -/
theorem KSit.turn (h : KSit w p A ps K) (hml : K.mem.length = 4) {i : Nat} (hi : i < 4) {pm : Nat} (hp : ps.getD i none = some pm) {S' : Nat → Prop} {m' : Mem} (hm : PMem w' pm S' m') (hg : Grow (A (i + 1)) w S') (hf : Fr (A (i + 1)) w w') : KSit w' p (updA A (i + 1) S') ps (K.setMem i m') := by
  have h5 : i + 1 < 5 := by omega
  have ho := h.other h5 hg hm.lt (fun e => by
    rcases hg 0 e with h1 | h1
    · exact h.z _ h5 h1
    · have := h.lt 0 p (by omega) h.k.sp; omega) hf.size
  have hz0 := h.z _ h5
  refine ⟨?_, h.l, fun j hj => ?_, ho.1, ho.2.1, ho.2.2⟩
  · rw [updA_ne A S' (by omega : 0 ≠ i + 1)]
    exact (h.k.fr hf (fun k h1 h2 => absurd (h.dis 0 (i + 1) k (by omega) h5 h1 h2) (by omega)) hz0).mem i m'
  · rw [memAt_set (by omega)]
    by_cases e : j = i
    · subst e
      rw [if_pos rfl, updA_at, hp]; exact hm
    · rw [if_neg e, updA_ne A S' (by omega : j + 1 ≠ i + 1)]
      exact (h.mem j hj).fr hf (fun k h1 h2 => absurd (h.dis (j + 1) (i + 1) k (by omega) h5 h1 h2) (by omega)) hz0
/-- The cluster's own record has turned. -/
theorem KSit.clu (h : KSit w p A ps K) {K' : Clu} {S' : Nat → Prop} (hk : KMem w' p S' ps K') (hm : K'.mem = K.mem) (hg : Grow (A 0) w S') (hf : Fr (A 0) w w') : KSit w' p (updA A 0 S') ps K' := by
  have ho := h.other (i := 0) (by omega) hg hk.own hk.t0 hf.size
  have hz0 := h.z 0 (by omega)
  refine ⟨?_, h.l, fun j hj => ?_, ho.1, ho.2.1, ho.2.2⟩
  · rw [updA_at]; exact hk
  · rw [updA_ne A S' (by omega : j + 1 ≠ 0)]
    have h1 := (h.mem j hj).fr hf (fun k h1 h2 => absurd (h.dis (j + 1) 0 k (by omega) (by omega) h1 h2) (by omega)) hz0
    unfold Clu.memAt at *
    rw [hm]; exact h1
end
/-- What a call leaves of the cluster. -/
structure KGoes (w w' : World) (p : Nat) (A : Nat → Nat → Prop) (ps : List (Option Nat)) (K : Clu) : Prop where
  ex : ∃ A', KSit w' p A' ps K ∧ Grow (UA A) w (UA A')
  fr : Fr (UA A) w w'
theorem KGoes.trans {w w1 w2 : World} {p : Nat} {A A1 : Nat → Nat → Prop} {ps : List (Option Nat)} {K1 : Clu} (hg : Grow (UA A) w (UA A1)) (hf : Fr (UA A) w w1) (h : KGoes w1 w2 p A1 ps K1) : KGoes w w2 p A ps K1 := by
  obtain ⟨A', h1, h2⟩ := h.ex
  exact ⟨⟨A', h1, hg.trans hf.size h2⟩, hf.grow hg h.fr⟩
/-- Where the cluster's pointers lie. -/
theorem KSit.cells {w : World} {p : Nat} {A : Nat → Nat → Prop} {ps : List (Option Nat)} {K : Clu} (h : KSit w p A ps K) : ∃ g off cap, A 0 g ∧ w.cell? ⟨p, 0, none⟩ = some (.slice (some ⟨g, off, none⟩) 4 cap) ∧ ∀ i, i < 4 → w.cell? ⟨g, off + i, none⟩ = some (mptr (ps.getD i none)) := by
  obtain ⟨vm, vl, vc, vv, l0, l1, l2, l3, vb, g1⟩ := h.k.ex
  have hr : Row w (A 0) 31 1 vm ps.length (ps.flatMap mcells) := g1.row 0 _ _ _ rfl rfl rfl
  have hl := h.l
  obtain ⟨am, cm, rfl⟩ := hr.isSlice
  obtain ⟨g, off, rfl, hs, hg, hcap⟩ := hr.place (by omega)
  refine ⟨g, off, cm, hs, ?_, fun i hi => ?_⟩
  · have q := cell_at g1.box 0
    rw [← hl]; exact q
  · have hi' : i < ps.length := by omega
    have ml : ∀ o : Option Nat, (mcells o).length = 1 := fun _ => rfl
    have q := hr.elem ml i 0 hi' (by omega)
    rw [List.getD_eq_getElem?_getD, List.getElem?_eq_getElem hi']
    simpa [mcells] using q
end Go.Proofs.YtkehpnobidendaaDoor

namespace Go.Proofs.YtkehpnobidendaaDoor
open Go.RowKit

theorem info_vote : (Tryd.prog.info? 106).map (fun i => (i.zero, i.size, i.bytes)) = some (some (.agg (vtcells ⟨0, 0, 0⟩).toArray), 3, 24) := by kernel_rfl
theorem info_crt : (Tryd.prog.info? 26).map (fun i => (i.zero, i.size, i.bytes)) = some (some (.agg Crt.zero.cells.toArray), 6, 48) := by kernel_rfl
theorem Bun.app1 {w : World} {p : Nat} {T : TypeId} {S : Nat → Prop} {C : Array Value} {V : List Value} {E : List (TypeId × Nat)} {X : List (Nat × List Value)} (h : Bun w p T S C V E X) (i : Nat) {v : Value} (hv : V[i]? = some v) {e : TypeId} {size : Nat} (he : E[i]? = some (e, size)) {n : Nat} {xs : List Value} (hx : X[i]? = some (n, xs)) (ty : TypeId) (hty : Tryd.prog.underlying ty = some (.slice e)) {z : Value} {bytes : Nat} (hinfo : (Tryd.prog.info? e).map (fun i => (i.zero, i.size, i.bytes)) = some (some z, size, bytes)) (hzs : z.cells.size = size) (cs : List Value) (hcs : cs.length = 1 * size) (h1 : ∀ u ∈ cs, u.oneCell' = true) (hn : n + 1 ≤ maxLen) (hby : (n + 1) * bytes ≤ 140737488355328) :
    ∃ a' c' w1, (Builtin.append_ #[ty, ty] ty #[v, .slice (some ⟨w.heap.size, 0, none⟩) 1 1]).run Tryd.prog (w.alloc (.cells cs.toArray e)).drew = .ok (.slice a' (n + 1) c') w1 ∧ Row w1 (fun k => v.ownBlock = some k ∨ k = (w.alloc (.cells cs.toArray e)).drew.heap.size) e size (.slice a' (n + 1) c') (n + 1) (xs ++ cs) ∧ Fr (fun k => v.ownBlock = some k) (w.alloc (.cells cs.toArray e)).drew w1 := by
  obtain ⟨i0, hi0, hz0, hz1, hz2⟩ := info_parts hinfo
  have hr := ((h.alloc (.cells cs.toArray e)).drew).row i v (e, size) (n, xs) hv he hx
  obtain ⟨v', w1, hrun, hr', hf⟩ := run_append_row Tryd.prog (w.alloc (.cells cs.toArray e)).drew S ty ty e i0 z size bytes hty hi0 hz0 hz1 hz2 hzs v n xs hr ⟨w.heap.size, 0, none⟩ 1 1 cs hcs (new_cells w cs e rfl) h1 (by omega) hn hby
  obtain ⟨a', c', rfl⟩ := hr'.isSlice
  exact ⟨a', c', w1, hrun, hr', hf⟩
def appL (args : Array Value) : Sem Value := Builtin.append_ #[35, 35] 35 args
theorem app_l (args : Array Value) : Builtin.append_ #[35, 35] 35 args = appL args := rfl
def appV (args : Array Value) : Sem Value := Builtin.append_ #[56, 56] 56 args
theorem app_v (args : Array Value) : Builtin.append_ #[56, 56] 56 args = appV args := rfl
def appC (args : Array Value) : Sem Value := Builtin.append_ #[55, 55] 55 args
theorem app_c (args : Array Value) : Builtin.append_ #[55, 55] 55 args = appC args := rfl
/-- What an append leaves: ahead of the store, and behind it. -/
structure KApp (w w1 : World) (p : Nat) (S : Nat → Prop) (ps : List (Option Nat)) (K' : Clu) (o : Nat) (old new : Value) : Prop where
  c0 : w.cell? ⟨p, o, none⟩ = some old
  ca : ∀ ob, (w.alloc ob).cell? ⟨p, o, none⟩ = some old
  c1 : w1.cell? ⟨p, o, none⟩ = some old
  f1 : w1.frozen? ⟨p, o, none⟩ = false
  ex : ∃ S', KMem (w1.setCell ⟨p, o, none⟩ new) p S' ps K' ∧ Grow S w S' ∧ Fr S w (w1.setCell ⟨p, o, none⟩ new)
theorem ltr_one (l : Ltr) : ∀ u ∈ l.cells, u.oneCell' = true := by
  obtain ⟨l0, ⟨xk, xf, xv, ⟨bv, ⟨jv, jb, j0, j1, j2, j3⟩, bc⟩, nu, ⟨cv, cb, k0, k1, k2, k3⟩, sl⟩⟩ := l
  simp [Ltr.cells, Msg.cells, Value.oneCell']
theorem KMem.appL {w : World} {p : Nat} {S : Nat → Prop} {ps : List (Option Nat)} {K : Clu} (h : KMem w p S ps K) (l : Ltr) (hn : K.letters.length ≤ 1700000000) :
    ∃ al cl a' c' w1, (appL #[.slice al K.letters.length cl, .slice (some ⟨w.heap.size, 0, none⟩) 1 1]).run Tryd.prog (w.alloc (.cells l.cells.toArray 42)).drew = .ok (.slice a' (K.letters.length + 1) c') w1 ∧ KApp w w1 p S ps (K.addL l) 2 (.slice al K.letters.length cl) (.slice a' (K.letters.length + 1) c') := by
  obtain ⟨um, ul, uc, uv, u0, u1, u2, u3, ub, hB⟩ := h.ex
  have hRL : Row w S 42 20 ul K.letters.length (K.letters.flatMap Ltr.cells) := hB.row 1 _ _ _ rfl rfl rfl
  obtain ⟨al, cl, rfl⟩ := hRL.isSlice
  obtain ⟨a', c', w1, hrun, hr', hf⟩ := hB.app1 1 rfl rfl rfl 35 Tryd.underlying35 info_letter rfl l.cells rfl (ltr_one l) (by unfold maxLen; omega) (by omega)
  have hb7 := ((hB.alloc _).drew).after 1 rfl hf
  refine ⟨al, cl, a', c', w1, hrun, cell_at hB.box 2, fun o => cell_at (hB.alloc o).box 2, cell_at hb7 2, free_at hb7 2, fun k => S k ∨ (Value.slice a' (K.letters.length + 1) c').ownBlock = some k, ⟨⟨um, .slice a' (K.letters.length + 1) c', uc, uv, u0, u1, u2, u3, ub, ?_⟩, ?_, ?_⟩, ?_, ?_⟩
  · exact ((hB.alloc _).drew).put 1 rfl rfl _ (K.letters.length + 1, K.letters.flatMap Ltr.cells ++ l.cells) hr' hf 2 rfl rfl (by simp [kX, Clu.addL])
  · exact tab_put ((hB.alloc _).drew) ((h.tab.below (below_alloc _ _)).same rfl) h.t0 1 rfl hf 2 _
  · exact t0_put ((hB.alloc _).drew) h.t0 1 rfl hr'
  · exact grow_put hr' (by simp [World.drew]) (fun k hk => (hRL.ownS hk).1)
  · exact ((hB.alloc _).drew).frPut (S := S) (w := w) ((Fr.alloc S w _).trans (Fr.drew S _) (fun _ hi => .inl hi)) 1 rfl hf 2 _
theorem KMem.appV {w : World} {p : Nat} {S : Nat → Prop} {ps : List (Option Nat)} {K : Clu} (h : KMem w p S ps K) (t : Vt) (hn : K.voted.length ≤ 1700000000) :
    ∃ al cl a' c' w1, (appV #[.slice al K.voted.length cl, .slice (some ⟨w.heap.size, 0, none⟩) 1 1]).run Tryd.prog (w.alloc (.cells (vtcells t).toArray 106)).drew = .ok (.slice a' (K.voted.length + 1) c') w1 ∧ KApp w w1 p S ps (K.addV t) 4 (.slice al K.voted.length cl) (.slice a' (K.voted.length + 1) c') := by
  obtain ⟨um, ul, uc, uv, u0, u1, u2, u3, ub, hB⟩ := h.ex
  have hRL : Row w S 106 3 uv K.voted.length (K.voted.flatMap vtcells) := hB.row 3 _ _ _ rfl rfl rfl
  obtain ⟨al, cl, rfl⟩ := hRL.isSlice
  obtain ⟨a', c', w1, hrun, hr', hf⟩ := hB.app1 3 rfl rfl rfl 56 Tryd.underlying56 info_vote rfl (vtcells t) rfl (by simp [vtcells, Value.oneCell']) (by unfold maxLen; omega) (by omega)
  have hb7 := ((hB.alloc _).drew).after 3 rfl hf
  refine ⟨al, cl, a', c', w1, hrun, cell_at hB.box 4, fun o => cell_at (hB.alloc o).box 4, cell_at hb7 4, free_at hb7 4, fun k => S k ∨ (Value.slice a' (K.voted.length + 1) c').ownBlock = some k, ⟨⟨um, ul, uc, .slice a' (K.voted.length + 1) c', u0, u1, u2, u3, ub, ?_⟩, ?_, ?_⟩, ?_, ?_⟩
  · exact ((hB.alloc _).drew).put 3 rfl rfl _ (K.voted.length + 1, K.voted.flatMap vtcells ++ vtcells t) hr' hf 4 rfl rfl (by simp [kX, Clu.addV])
  · exact tab_put ((hB.alloc _).drew) ((h.tab.below (below_alloc _ _)).same rfl) h.t0 3 rfl hf 4 _
  · exact t0_put ((hB.alloc _).drew) h.t0 3 rfl hr'
  · exact grow_put hr' (by simp [World.drew]) (fun k hk => (hRL.ownS hk).1)
  · exact ((hB.alloc _).drew).frPut (S := S) (w := w) ((Fr.alloc S w _).trans (Fr.drew S _) (fun _ hi => .inl hi)) 3 rfl hf 4 _
theorem KMem.appC {w : World} {p : Nat} {S : Nat → Prop} {ps : List (Option Nat)} {K : Clu} (h : KMem w p S ps K) (c : Crt) (hn : K.certs.length ≤ 1700000000) :
    ∃ al cl a' c' w1, (appC #[.slice al K.certs.length cl, .slice (some ⟨w.heap.size, 0, none⟩) 1 1]).run Tryd.prog (w.alloc (.cells c.cells.toArray 26)).drew = .ok (.slice a' (K.certs.length + 1) c') w1 ∧ KApp w w1 p S ps (K.addC c) 3 (.slice al K.certs.length cl) (.slice a' (K.certs.length + 1) c') := by
  obtain ⟨um, ul, uc, uv, u0, u1, u2, u3, ub, hB⟩ := h.ex
  have hRL : Row w S 26 6 uc K.certs.length (K.certs.flatMap Crt.cells) := hB.row 2 _ _ _ rfl rfl rfl
  obtain ⟨al, cl, rfl⟩ := hRL.isSlice
  obtain ⟨a', c', w1, hrun, hr', hf⟩ := hB.app1 2 rfl rfl rfl 55 Tryd.underlying55 info_crt rfl c.cells rfl (by simp [Crt.cells, Value.oneCell']) (by unfold maxLen; omega) (by omega)
  have hb7 := ((hB.alloc _).drew).after 2 rfl hf
  refine ⟨al, cl, a', c', w1, hrun, cell_at hB.box 3, fun o => cell_at (hB.alloc o).box 3, cell_at hb7 3, free_at hb7 3, fun k => S k ∨ (Value.slice a' (K.certs.length + 1) c').ownBlock = some k, ⟨⟨um, ul, .slice a' (K.certs.length + 1) c', uv, u0, u1, u2, u3, ub, ?_⟩, ?_, ?_⟩, ?_, ?_⟩
  · exact ((hB.alloc _).drew).put 2 rfl rfl _ (K.certs.length + 1, K.certs.flatMap Crt.cells ++ c.cells) hr' hf 3 rfl rfl (by simp [kX, Clu.addC])
  · exact tab_put ((hB.alloc _).drew) ((h.tab.below (below_alloc _ _)).same rfl) h.t0 2 rfl hf 3 _
  · exact t0_put ((hB.alloc _).drew) h.t0 2 rfl hr'
  · exact grow_put hr' (by simp [World.drew]) (fun k hk => (hRL.ownS hk).1)
  · exact ((hB.alloc _).drew).frPut (S := S) (w := w) ((Fr.alloc S w _).trans (Fr.drew S _) (fun _ hi => .inl hi)) 2 rfl hf 3 _
end Go.Proofs.YtkehpnobidendaaDoor
