/- The document's member: it learns of a certificate (learn). The model: what holds of every member (Inv): its blocks' parents are known and come earlier; so the way up ends. No program in it. -/
import Derived.Test.YtkehpnobidendaaDoorM12
import Derived.Test.YtkehpnobidendaaDoorM13
import Derived.Deep.DeepCutAuto
import Derived.Deep.RegionLaw
import Derived.Deep.RegionHeld3
import Derived.Deep.DrawnRows
import Derived.Deep.QuietTactic
import Derived.BigQuiet
namespace Go.Proofs.YtkehpnobidendaaDoor
open Go.RowKit
attribute [local go_sem ↓] load_blk Go.wp_at_zero Go.wp_at_succ

/-- What a certificate makes of High. -/
def Mem.high1 (m : Mem) (c : Crt) : Mem := if m.high.view < c.view then { m with high := c } else m
/-- What a block's Just makes of Locked. -/
def Mem.lock1 (m : Mem) (b : Blk) : Mem := if m.locked.view < b.just.view then { m with locked := b.just } else m
theorem learn_is (m : Mem) (c : Crt) : m.learn c = if c.block = 0 then m.high1 c else
    let b := ((m.high1 c).block c.block).getD Blk.zero
    if b.just.block = 0 then (m.high1 c).lock1 b else ((m.high1 c).lock1 b).commit b := rfl
theorem halts_blocks {m m' : Mem} (h : m'.blocks = m.blocks) (old : Nat) : ∀ f n, m'.halts old f n = m.halts old f n := by
  intro f
  induction f with
  | zero => intro n; rfl
  | succ f ih =>
    intro n
    show (n = old ∨ n = 0 ∨ m'.halts old f (m'.up n)) = (n = old ∨ n = 0 ∨ m.halts old f (m.up n))
    have e3 : m'.up n = m.up n := by unfold Mem.up Mem.block; rw [h]
    rw [e3, ih]
theorem lock1_blocks (m : Mem) (b : Blk) : (m.lock1 b).blocks = m.blocks ∧ (m.lock1 b).log = m.log := by unfold Mem.lock1; split <;> exact ⟨rfl, rfl⟩
/-- What commit asks first. -/
def Mem.shuns (m : Mem) (b p o : Blk) : Bool := m.logged p.just.block || b.view != p.view + 1 || p.view != o.view + 1
theorem commit_is (m : Mem) (b p o : Blk) (hp : p = (m.block b.just.block).getD Blk.zero) (ho : o = (m.block p.just.block).getD Blk.zero) : m.commit b = if m.shuns b p o = true then m else if (!m.log.isEmpty && !m.above (m.log.getLastD 0) (m.blocks.length + 1) p.just.block) = true then m else { m with log := m.log ++ (m.more (m.blocks.length + 1) p.just.block).reverse } := by
  subst hp ho; rfl
/-- From a block on, the way up comes to one in the log within so many steps. -/
def Mem.haltsL (m : Mem) : Nat → Nat → Prop
  | 0, _ => False
  | f + 1, n => m.logged (m.up n) = true ∨ m.haltsL f (m.up n)
theorem haltsL_of {m : Mem} : ∀ f n, n ≠ 0 → m.halts 0 (f + 1) n → m.haltsL (f + 1) n
  | 0, n, hn, h => by
    rcases h with h | h | h
    · exact absurd h hn
    · exact absurd h hn
    · exact h.elim
  | f + 1, n, hn, h => by
    rcases h with h | h | h
    · exact absurd h hn
    · exact absurd h hn
    · by_cases h0 : m.up n = 0
      · left; rw [h0]; simp [Mem.logged]
      · right; exact haltsL_of f (m.up n) h0 h
theorem last_get {l : List Nat} {q : Nat} (h : l.length = q + 1) : l.getLastD 0 = l[q]'(by omega) := by
  rw [List.getLastD_eq_getLast?, List.getLast?_eq_getElem?, List.getElem?_eq_getElem (by omega)]
  simp only [Option.getD_some]
  congr 1
  omega
theorem own_below {wc wr w7 : World} {e : TypeId} {size n : Nat} {v : Value} {xs : List Value} {o : Obj} (hb : Below wc.heap.size wc wr) (hv : Row wr (fun k => wc.heap.size ≤ k) e size v n xs) (hf : Fr (fun k => v.ownBlock = some k) (wr.alloc o) w7) : Below wc.heap.size wc w7 := by
  have hbb := bnext hb ((Below.refl _ _).alloc (Nat.le_refl _) o)
  exact ⟨hf.os.trans hbb.os, hf.tape.trans hbb.tape, hf.output.trans hbb.output, Nat.le_trans hbb.size hf.size, fun j hj => (hf.block j (Nat.lt_of_lt_of_le hj hbb.size) (fun e => by have := (hv.ownS e).1; omega)).trans (hbb.block j hj)⟩
theorem rev_take (l : List Nat) (j : Nat) (h : j < l.length) : l.reverse.take (l.length - j) = l.reverse.take (l.length - (j + 1)) ++ [l[j]] := by
  have e : l.length - j = (l.length - (j + 1)) + 1 := by omega
  rw [e, List.take_succ_eq_append_getElem (by simp; omega)]
  congr 2
  rw [List.getElem_reverse]
  congr 1
  omega
theorem high1_block (m : Mem) (c : Crt) (n : Nat) : (m.high1 c).block n = m.block n := by unfold Mem.high1; split <;> rfl
theorem lock1_block (m : Mem) (b : Blk) (n : Nat) : (m.lock1 b).block n = m.block n := by unfold Mem.lock1; split <;> rfl
theorem fr_set6 {S : Nat → Prop} {w : World} {p : Nat} (hs : S p) (o : Nat) (a b c d e f : Value) : Fr S w ((((((w.setCell ⟨p, o, none⟩ a).setCell ⟨p, o + 1, none⟩ b).setCell ⟨p, o + 2, none⟩ c).setCell ⟨p, o + 3, none⟩ d).setCell ⟨p, o + 4, none⟩ e).setCell ⟨p, o + 5, none⟩ f) :=
  (((((Fr.setCell w hs _).trans (Fr.setCell _ (S := S) hs _) (fun _ h => .inl h)).trans (Fr.setCell _ (S := S) hs _) (fun _ h => .inl h)).trans (Fr.setCell _ (S := S) hs _) (fun _ h => .inl h)).trans (Fr.setCell _ (S := S) hs _) (fun _ h => .inl h)).trans (Fr.setCell _ (S := S) hs _) (fun _ h => .inl h)
theorem Fr.box {S : Nat → Prop} {w w' : World} {k : Nat} {o : Obj} (h : Fr S w w') (hk : w.heap[k]? = some o) (hS : ¬ S k) : w'.heap[k]? = some o := (h.block k (lt_at hk) hS).trans hk

end Go.Proofs.YtkehpnobidendaaDoor

namespace Go.Proofs.YtkehpnobidendaaDoor

/-- Where a number stands first (the length, where it does not). -/
def idx (n : Nat) : List (Nat × Blk) → Nat
  | [] => 0
  | (k, _) :: r => if k = n then 0 else idx n r + 1
theorem find_idx {n : Nat} {b : Blk} : ∀ {l : List (Nat × Blk)}, find n l = some b → ∃ h : idx n l < l.length, l[idx n l] = (n, b)
  | [], h => by cases h
  | (k, c) :: r, h => by
    by_cases hk : k = n
    · have e : idx n ((k, c) :: r) = 0 := by simp [idx, hk]
      have e2 : c = b := by simpa [find, hk] using h
      subst e2
      exact ⟨by rw [e]; simp, by simp only [e]; simp [hk]⟩
    · have e : idx n ((k, c) :: r) = idx n r + 1 := by simp [idx, hk]
      have h' : find n r = some b := by simpa [find, hk] using h
      obtain ⟨h1, h2⟩ := find_idx h'
      exact ⟨by rw [e]; simp; omega, by simp only [e]; simpa using h2⟩
theorem idx_mem {n : Nat} : ∀ {l : List (Nat × Blk)} {i : Nat}, n ∈ (l.take i).map (·.1) → idx n l < i ∧ (find n l).isSome = true
  | [], i, h => by simp at h
  | (k, c) :: r, 0, h => by simp at h
  | (k, c) :: r, i + 1, h => by
    by_cases hk : k = n
    · exact ⟨by simp [idx, hk], by simp [find, hk]⟩
    · have h' : n ∈ (r.take i).map (·.1) := by
        simp only [List.take_succ_cons, List.map_cons, List.mem_cons] at h
        rcases h with h | h
        · exact absurd h.symm hk
        · exact h
      have := idx_mem h'
      exact ⟨by simp [idx, hk]; omega, by simp [find, hk]; exact this.2⟩
theorem find_mem {n : Nat} {b : Blk} {l : List (Nat × Blk)} (h : find n l = some b) : (n, b) ∈ l := by
  obtain ⟨h1, h2⟩ := find_idx h
  rw [← h2]; exact List.getElem_mem _
theorem find_append {n : Nat} (l r : List (Nat × Blk)) : find n (l ++ r) = (find n l).or (find n r) := by
  induction l with
  | nil => rfl
  | cons a s ih =>
    obtain ⟨k, b⟩ := a
    simp only [List.cons_append, find]
    split
    · rfl
    · exact ih
theorem mem_num {n : Nat} {l : List (Nat × Blk)} (h : (find n l).isSome = true) : n ∈ l.map (·.1) := by
  obtain ⟨b, hb⟩ := Option.isSome_iff_exists.1 h
  exact List.mem_map.2 ⟨(n, b), find_mem hb, rfl⟩

/-- What holds of a member's blocks. -/
structure Chain (l : List (Nat × Blk)) : Prop where
  head : ∃ r, l = (0, Blk.zero) :: r
  par : ∀ (i : Nat) (h : i < l.length), 0 < i → (l[i]).2.just.block ∈ (l.take i).map (·.1)
  vw : ∀ x ∈ l, 0 ≤ x.2.view ∧ x.2.view ≤ 1000 ∧ x.2.Ok ∧ x.2.cmd.size ≤ 16
  js : ∀ x ∈ l, 0 ≤ x.2.just.view ∧ ∃ p, find x.2.just.block l = some p ∧ p.view = x.2.just.view
theorem chain_start : Chain [(0, Blk.zero)] :=
  ⟨⟨[], rfl⟩, fun i h h0 => by simp at h; omega, fun x hx => by
    simp at hx; subst hx
    exact ⟨by decide, by decide, ⟨by decide, by decide, ⟨by decide, by decide, by decide⟩, by decide⟩, by decide⟩, fun x hx => by
    simp at hx; subst hx
    exact ⟨by decide, Blk.zero, rfl, rfl⟩⟩
theorem Chain.snoc {l : List (Nat × Blk)} (h : Chain l) (n : Nat) (b : Blk) (hj : 0 ≤ b.just.view ∧ ∃ p, find b.just.block l = some p ∧ p.view = b.just.view) (hv : 0 ≤ b.view ∧ b.view ≤ 1000 ∧ b.Ok ∧ b.cmd.size ≤ 16) : Chain (l ++ [(n, b)]) := by
  have hk : (find b.just.block l).isSome = true := by obtain ⟨_, p, h1, _⟩ := hj; rw [h1]; rfl
  obtain ⟨r, rfl⟩ := h.head
  refine ⟨⟨r ++ [(n, b)], rfl⟩, fun i hi h0 => ?_, fun x hx => ?_, fun x hx => ?_⟩
  · by_cases hl : i < ((0, Blk.zero) :: r).length
    · have := h.par i hl h0
      rw [List.getElem_append_left hl, List.take_append_of_le_length (by omega)]
      exact this
    · have e : i = ((0, Blk.zero) :: r).length := by simp at hi hl ⊢; omega
      subst e
      rw [List.take_left, List.getElem_append_right (Nat.le_refl _)]
      simp only [Nat.sub_self, List.getElem_cons_zero]
      exact mem_num hk
  · rcases List.mem_append.1 hx with h1 | h1
    · exact h.vw x h1
    · simp at h1; subst h1; exact hv
  · have up1 : ∀ k p, find k ((0, Blk.zero) :: r) = some p → find k ((0, Blk.zero) :: r ++ [(n, b)]) = some p := fun k p hp => by rw [find_append, hp]; rfl
    rcases List.mem_append.1 hx with h1 | h1
    · obtain ⟨h2, p, h3, h4⟩ := h.js x h1
      exact ⟨h2, p, up1 _ _ h3, h4⟩
    · simp at h1; subst h1
      obtain ⟨h2, p, h3, h4⟩ := hj
      exact ⟨h2, p, up1 _ _ h3, h4⟩
/-- The way up from a known block ends within as many steps as its place says. -/
theorem halts_mono {m : Mem} {old : Nat} : ∀ {f g n : Nat}, f ≤ g → m.halts old f n → m.halts old g n
  | 0, _, _, _, h => h.elim
  | f + 1, 0, _, hfg, _ => by omega
  | f + 1, g + 1, n, hfg, h => by
    rcases h with h | h | h
    · exact .inl h
    · exact .inr (.inl h)
    · exact .inr (.inr (halts_mono (by omega) h))
theorem halts_at {m : Mem} (hc : Chain m.blocks) (old : Nat) : ∀ (i n : Nat) (b : Blk), m.block n = some b → idx n m.blocks = i → m.halts old (i + 1) n := by
  intro i
  induction i using Nat.strongRecOn with
  | _ i ih =>
    intro n b hb hi
    obtain ⟨h1, h2⟩ := find_idx hb
    by_cases h0 : i = 0
    · subst h0
      obtain ⟨r, hr⟩ := hc.head
      right; left
      have : m.blocks[idx n m.blocks].1 = n := by rw [h2]
      have e : m.blocks[idx n m.blocks] = m.blocks[0]'(by omega) := by congr 1
      rw [e] at this
      simp only [hr, List.getElem_cons_zero] at this
      exact this.symm
    · right; right
      have hp := hc.par (idx n m.blocks) h1 (by omega)
      rw [h2] at hp
      have hu : m.up n = b.just.block := by unfold Mem.up; rw [hb]; rfl
      have h3 : idx b.just.block m.blocks < idx n m.blocks ∧ (find b.just.block m.blocks).isSome = true := idx_mem hp
      obtain ⟨c, hcb⟩ := Option.isSome_iff_exists.1 h3.2
      have h4 := ih (idx b.just.block m.blocks) (by omega) b.just.block c hcb rfl
      rw [hu]
      exact halts_mono (by omega) h4
theorem halts_all {m : Mem} (hc : Chain m.blocks) (old n : Nat) : m.halts old (m.blocks.length + 1) n := by
  cases hb : m.block n with
  | none =>
    have hu : m.up n = 0 := by unfold Mem.up; rw [hb]; rfl
    obtain ⟨r, hr⟩ := hc.head
    right; right
    rw [hu, hr]
    exact .inr (.inl rfl)
  | some b =>
    have h1 := (find_idx hb).1
    exact halts_mono (by omega) (halts_at hc old _ n b hb rfl)
theorem view_all {m : Mem} (hc : Chain m.blocks) (n : Nat) : 0 ≤ ((m.block n).getD Blk.zero).view ∧ ((m.block n).getD Blk.zero).view ≤ 1000 := by
  cases hb : m.block n with
  | none => exact ⟨by decide, by decide⟩
  | some b => have := hc.vw _ (find_mem hb); exact ⟨this.1, this.2.1⟩

/-- A certificate of a member: its block is known, of its view. -/
structure Held (m : Mem) (c : Crt) : Prop where
  v0 : 0 ≤ c.view
  ok : c.Ok
  known : ∃ b, m.block c.block = some b ∧ b.view = c.view
/-- What holds of every member. -/
structure Inv (m : Mem) : Prop where
  i0 : 0 ≤ m.id
  i1 : m.id ≤ 3
  p0 : 1 ≤ m.patience
  p1 : m.patience ≤ 100
  v0 : 1 ≤ m.view
  v1 : m.view ≤ 1000
  t0 : 0 ≤ m.voted
  t1 : m.voted ≤ 1000
  w0 : 0 ≤ m.waited
  ch : Chain m.blocks
  hi : Held m m.high
  lk : Held m m.locked
  qc : ∀ c ∈ m.queue, c.size ≤ 16
  ql : m.queue.length ≤ 8
  nd : m.log.Nodup
  lg : ∀ n ∈ m.log, n ≠ 0 ∧ (m.block n).isSome = true
  vt : ∀ t ∈ m.votes, 0 ≤ t.fro ∧ t.fro ≤ 3
theorem zero_known {m : Mem} (hc : Chain m.blocks) : m.block 0 = some Blk.zero := by
  obtain ⟨r, hr⟩ := hc.head
  unfold Mem.block; rw [hr]; rfl
theorem held_zero {m : Mem} (hc : Chain m.blocks) : Held m Crt.zero := ⟨by decide, ⟨by decide, by decide, by decide⟩, ⟨Blk.zero, zero_known hc, rfl⟩⟩
theorem inv_new (id patience : Int) (h : 0 ≤ id ∧ id ≤ 3 ∧ 1 ≤ patience ∧ patience ≤ 100) : Inv (Mem.new id patience) :=
  ⟨h.1, h.2.1, h.2.2.1, h.2.2.2, (by decide : (1 : Int) ≤ 1), (by decide : (1 : Int) ≤ 1000), (by decide : (0 : Int) ≤ 0), (by decide : (0 : Int) ≤ 1000), (by decide : (0 : Int) ≤ 0), chain_start, held_zero (m := Mem.new id patience) chain_start, held_zero (m := Mem.new id patience) chain_start, (fun c hc => by cases hc), (by decide : (0 : Nat) ≤ 8), List.nodup_nil, (fun n hn => by cases hn), (fun t ht => by cases ht)⟩
theorem Held.of_blocks {m m' : Mem} {c : Crt} (h : Held m c) (hb : ∀ n b, m.block n = some b → m'.block n = some b) : Held m' c := by
  obtain ⟨b, h1, h2⟩ := h.known
  exact ⟨h.v0, h.ok, b, hb _ _ h1, h2⟩
/-- A step that turns neither blocks nor log. -/
theorem Inv.same {m m' : Mem} (h : Inv m) (hb : m'.blocks = m.blocks) (hl : m'.log = m.log) (hi : m'.id = m.id) (hp : m'.patience = m.patience) (hv : 1 ≤ m'.view ∧ m'.view ≤ 1000) (ht : 0 ≤ m'.voted ∧ m'.voted ≤ 1000) (hw : 0 ≤ m'.waited) (hh : Held m m'.high) (hk : Held m m'.locked) (hq : ∀ c ∈ m'.queue, c.size ≤ 16) (hq2 : m'.queue.length ≤ 8) (hvt : ∀ t ∈ m'.votes, 0 ≤ t.fro ∧ t.fro ≤ 3) : Inv m' := by
  have hbb : ∀ n b, m.block n = some b → m'.block n = some b := fun n b h1 => by unfold Mem.block at *; rw [hb]; exact h1
  exact ⟨by rw [hi]; exact h.i0, by rw [hi]; exact h.i1, by rw [hp]; exact h.p0, by rw [hp]; exact h.p1, hv.1, hv.2, ht.1, ht.2, hw, by rw [hb]; exact h.ch, hh.of_blocks hbb, hk.of_blocks hbb, hq, hq2, by rw [hl]; exact h.nd, fun n hn => by
    rw [hl] at hn
    have := h.lg n hn
    exact ⟨this.1, by unfold Mem.block at *; rw [hb]; exact this.2⟩, hvt⟩
theorem inv_submit {m : Mem} (h : Inv m) (c : ByteArray) : Inv (m.submit c).1 := by
  unfold Mem.submit
  split
  · exact h
  · split
    · exact h
    · rename_i h1 h2
      exact h.same rfl rfl rfl rfl ⟨h.v0, h.v1⟩ ⟨h.t0, h.t1⟩ h.w0 h.hi h.lk (fun x hx => by
        rcases List.mem_append.1 hx with h3 | h3
        · exact h.qc x h3
        · simp at h3; subst h3; omega) (by simp; omega) h.vt
theorem inv_enter {m : Mem} (h : Inv m) (v : Int) (hv : 1 ≤ v ∧ v ≤ 1000) : Inv (m.enter v) :=
  h.same rfl rfl rfl rfl hv ⟨h.t0, h.t1⟩ (Int.le_refl 0) h.hi h.lk h.qc h.ql h.vt
theorem knows_keeps {m : Mem} {b : Blk} {n : Nat} {x : Blk} (h : m.block n = some x) : (m.knows b).block n = some x := by
  unfold Mem.knows
  split
  · exact h
  · unfold Mem.block at *
    show find n (m.blocks ++ [(b.num, b)]) = some x
    rw [find_append, h]; rfl
theorem inv_knows {m : Mem} (h : Inv m) (b : Blk) (hk : Held m b.just) (hv : 0 ≤ b.view ∧ b.view ≤ 1000 ∧ b.Ok ∧ b.cmd.size ≤ 16) : Inv (m.knows b) := by
  have hkeep : ∀ n x, m.block n = some x → (m.knows b).block n = some x := fun n x hx => knows_keeps hx
  by_cases hs : (m.block b.num).isSome = true
  · have e : m.knows b = m := by unfold Mem.knows; rw [if_pos hs]
    rw [e]; exact h
  · have e : m.knows b = { m with blocks := m.blocks ++ [(b.num, b)] } := by unfold Mem.knows; rw [if_neg hs]
    have hh := h.hi.of_blocks hkeep
    have hl := h.lk.of_blocks hkeep
    have hg : ∀ n ∈ m.log, n ≠ 0 ∧ ((m.knows b).block n).isSome = true := fun n hn => by
      have := h.lg n hn
      obtain ⟨x, hx⟩ := Option.isSome_iff_exists.1 this.2
      exact ⟨this.1, by rw [hkeep n x hx]; rfl⟩
    rw [e] at hh hl hg ⊢
    exact ⟨h.i0, h.i1, h.p0, h.p1, h.v0, h.v1, h.t0, h.t1, h.w0, h.ch.snoc _ b ⟨hk.v0, hk.known⟩ hv, hh, hl, h.qc, h.ql, h.nd, hg, h.vt⟩
theorem inv_ends {m : Mem} (h : Inv m) : Inv m.ends.1 := by
  cases hm : m.may with
  | false => rw [ends_no hm]; exact h
  | true =>
    rw [ends_yes hm]
    have hn : Inv m.noted := h.same rfl rfl rfl rfl ⟨h.v0, h.v1⟩ ⟨h.t0, h.t1⟩ h.w0 h.hi h.lk (fun c hc => h.qc c (List.mem_of_mem_tail hc)) (by show m.queue.tail.length ≤ 8; have := h.ql; rw [List.length_tail]; omega) h.vt
    refine inv_knows hn m.next (h.hi.of_blocks (m' := m.noted) (fun _ _ h => h)) ⟨?_, h.v1, ⟨?_, ?_, h.hi.ok, headD_le h.qc⟩, ?_⟩
    · show 0 ≤ m.view; have := h.v0; omega
    · show -9223372036854775808 ≤ m.view; have := h.v0; omega
    · show m.view ≤ 9223372036854775807; have := h.v1; omega
    · show (m.queue.headD ⟨#[]⟩).size ≤ 16
      cases hq : m.queue with
      | nil => exact Nat.zero_le _
      | cons a r => exact h.qc a (by rw [hq]; simp)
/-- A known block's Just is held. -/
theorem just_held {m : Mem} (hc : Chain m.blocks) {n : Nat} {b : Blk} (hb : m.block n = some b) : Held m b.just := by
  have h1 := hc.js _ (find_mem hb)
  have h2 := hc.vw _ (find_mem hb)
  exact ⟨h1.1, h2.2.2.1.j, h1.2⟩
/-- The parent of a known block is known, and stands earlier. -/
theorem up_known {m : Mem} (hc : Chain m.blocks) {n : Nat} {b : Blk} (hb : m.block n = some b) (hn : n ≠ 0) : (m.block (m.up n)).isSome = true ∧ idx (m.up n) m.blocks < idx n m.blocks := by
  obtain ⟨h1, h2⟩ := find_idx hb
  have hu : m.up n = b.just.block := by unfold Mem.up; rw [hb]; rfl
  by_cases h0 : idx n m.blocks = 0
  · obtain ⟨r, hr⟩ := hc.head
    have h3 : m.blocks[idx n m.blocks].1 = n := by rw [h2]
    have e : m.blocks[idx n m.blocks] = m.blocks[0]'(by omega) := by congr 1
    rw [e] at h3
    simp only [hr, List.getElem_cons_zero] at h3
    exact absurd h3.symm hn
  · have hp := hc.par (idx n m.blocks) h1 (by omega)
    rw [h2] at hp
    have h3 : idx b.just.block m.blocks < idx n m.blocks ∧ (find b.just.block m.blocks).isSome = true := idx_mem hp
    rw [hu]
    exact ⟨h3.2, h3.1⟩
theorem logged_ne {m : Mem} {n : Nat} (h : m.logged n = false) : n ≠ 0 ∧ n ∉ m.log := by
  unfold Mem.logged at h
  simp only [Bool.or_eq_false_iff, List.contains_eq_mem, decide_eq_false_iff_not, beq_eq_false_iff_ne] at h
  exact ⟨h.2, h.1⟩
/-- What is gathered: known blocks that are not in the log, each once, each no later than the first. -/
theorem more_props {m : Mem} (hc : Chain m.blocks) : ∀ (f n : Nat), (m.block n).isSome = true → m.logged n = false → (∀ x ∈ m.more f n, (m.block x).isSome = true ∧ m.logged x = false ∧ idx x m.blocks ≤ idx n m.blocks) ∧ (m.more f n).Nodup
  | 0, n, _, _ => ⟨(fun x hx => by cases hx), List.nodup_nil⟩
  | f + 1, n, hk, hl => by
    obtain ⟨b, hb⟩ := Option.isSome_iff_exists.1 hk
    have hu := up_known hc hb (logged_ne hl).1
    have e : m.more (f + 1) n = n :: (if m.logged (m.up n) then [] else m.more f (m.up n)) := rfl
    rw [e]
    cases hlu : m.logged (m.up n) with
    | true =>
      simp only [if_true]
      exact ⟨fun x hx => by simp at hx; subst hx; exact ⟨hk, hl, Nat.le_refl _⟩, by simp⟩
    | false =>
      have ih := more_props hc f (m.up n) hu.1 hlu
      simp only [Bool.false_eq_true, if_false]
      refine ⟨fun x hx => ?_, List.nodup_cons.2 ⟨fun hx => ?_, ih.2⟩⟩
      · rcases List.mem_cons.1 hx with h1 | h1
        · subst h1; exact ⟨hk, hl, Nat.le_refl _⟩
        · have := ih.1 x h1; exact ⟨this.1, this.2.1, by have := hu.2; omega⟩
      · have := (ih.1 n hx).2.2
        have := hu.2
        omega
theorem inv_commit {m : Mem} (h : Inv m) (b : Blk) (hb : (m.block b.just.block).isSome = true) : Inv (m.commit b) := by
  obtain ⟨p, hp⟩ := Option.isSome_iff_exists.1 hb
  rw [commit_is m b p ((m.block p.just.block).getD Blk.zero) (by rw [hp]; rfl) rfl]
  split
  · exact h
  · split
    · exact h
    · rename_i h1 h2
      have hl : m.logged p.just.block = false := by
        unfold Mem.shuns at h1
        cases hx : m.logged p.just.block with
        | false => rfl
        | true => rw [hx] at h1; simp at h1
      obtain ⟨d, hd, _⟩ := (just_held h.ch hp).known
      have hm := more_props h.ch (m.blocks.length + 1) p.just.block (by rw [hd]; rfl) hl
      refine ⟨h.i0, h.i1, h.p0, h.p1, h.v0, h.v1, h.t0, h.t1, h.w0, h.ch, h.hi.of_blocks (fun _ _ h => h), h.lk.of_blocks (fun _ _ h => h), h.qc, h.ql, ?_, fun n hn => ?_, h.vt⟩
      · show (m.log ++ (m.more (m.blocks.length + 1) p.just.block).reverse).Nodup
        rw [List.nodup_append]
        refine ⟨h.nd, (List.reverse_perm _).nodup_iff.2 hm.2, fun a ha c hc e => ?_⟩
        subst e
        exact (logged_ne (hm.1 a (List.mem_reverse.1 hc)).2.1).2 ha
      · rcases List.mem_append.1 hn with h3 | h3
        · exact h.lg n h3
        · have := hm.1 n (List.mem_reverse.1 h3)
          exact ⟨(logged_ne this.2.1).1, this.1⟩
theorem inv_learn {m : Mem} (h : Inv m) (c : Crt) (hc : Held m c) : Inv (m.learn c) := by
  have h1 : Inv (m.high1 c) := by
    unfold Mem.high1
    split
    · exact h.same rfl rfl rfl rfl ⟨h.v0, h.v1⟩ ⟨h.t0, h.t1⟩ h.w0 hc h.lk h.qc h.ql h.vt
    · exact h
  rw [learn_is]
  split
  · exact h1
  · obtain ⟨b, hb, _⟩ := hc.known
    have hb1 : (m.high1 c).block c.block = some b := by rw [high1_block]; exact hb
    dsimp only
    rw [hb1]
    simp only [Option.getD_some]
    have hj := just_held h1.ch hb1
    have h2 : Inv ((m.high1 c).lock1 b) := by
      unfold Mem.lock1
      split
      · exact h1.same rfl rfl rfl rfl ⟨h1.v0, h1.v1⟩ ⟨h1.t0, h1.t1⟩ h1.w0 h1.hi hj h1.qc h1.ql h1.vt
      · exact h1
    split
    · exact h2
    · obtain ⟨p, hp, _⟩ := hj.known
      exact inv_commit h2 b (by rw [lock1_block, hp]; rfl)
theorem inv_tick {m : Mem} (h : Inv m) : Inv m.tick.1 := by
  have hw : Inv ({ m with waited := m.waited + 1 } : Mem) := h.same rfl rfl rfl rfl ⟨h.v0, h.v1⟩ ⟨h.t0, h.t1⟩ (by show 0 ≤ m.waited + 1; have := h.w0; omega) h.hi h.lk h.qc h.ql h.vt
  by_cases hc : m.patience ≤ m.waited + 1 ∧ m.view < 1000
  · rw [tick_yes hc.1 hc.2]
    exact inv_ends (inv_enter hw _ ⟨by have := h.v0; omega, by have := hc.2; omega⟩)
  · rw [tick_no hc]
    exact inv_ends hw
/-- What learning leaves as it was. -/
structure Keeps (m m' : Mem) : Prop where
  i : m'.id = m.id
  p : m'.patience = m.patience
  v : m'.view = m.view
  t : m'.voted = m.voted
  w : m'.waited = m.waited
  b : m'.blocks = m.blocks
  vs : m'.votes = m.votes
  es : m'.enters = m.enters
  pr : m'.proposed = m.proposed
  q : m'.queue = m.queue
theorem Keeps.refl (m : Mem) : Keeps m m := ⟨rfl, rfl, rfl, rfl, rfl, rfl, rfl, rfl, rfl, rfl⟩
theorem Keeps.trans {a b c : Mem} (h : Keeps a b) (g : Keeps b c) : Keeps a c := ⟨g.i.trans h.i, g.p.trans h.p, g.v.trans h.v, g.t.trans h.t, g.w.trans h.w, g.b.trans h.b, g.vs.trans h.vs, g.es.trans h.es, g.pr.trans h.pr, g.q.trans h.q⟩
theorem high1_keeps (m : Mem) (c : Crt) : Keeps m (m.high1 c) := by unfold Mem.high1; split <;> exact ⟨rfl, rfl, rfl, rfl, rfl, rfl, rfl, rfl, rfl, rfl⟩
theorem lock1_keeps (m : Mem) (b : Blk) : Keeps m (m.lock1 b) := by unfold Mem.lock1; split <;> exact ⟨rfl, rfl, rfl, rfl, rfl, rfl, rfl, rfl, rfl, rfl⟩
theorem commit_keeps (m : Mem) (b : Blk) : Keeps m (m.commit b) := by
  rw [commit_is m b _ _ rfl rfl]
  split
  · exact .refl m
  · split
    · exact .refl m
    · exact ⟨rfl, rfl, rfl, rfl, rfl, rfl, rfl, rfl, rfl, rfl⟩
theorem learn_keeps (m : Mem) (c : Crt) : Keeps m (m.learn c) := by
  rw [learn_is]
  split
  · exact high1_keeps m c
  · dsimp only
    split
    · exact (high1_keeps m c).trans (lock1_keeps _ _)
    · exact ((high1_keeps m c).trans (lock1_keeps _ _)).trans (commit_keeps _ _)
theorem put_same (c : Crt) (i s : Int) : (c.put i s).view = c.view ∧ (c.put i s).block = c.block := by
  unfold Crt.put
  split
  · exact ⟨rfl, rfl⟩
  · split
    · exact ⟨rfl, rfl⟩
    · split <;> exact ⟨rfl, rfl⟩
theorem puts_same : ∀ (l : List Tk) (c : Crt), (l.foldl (fun (c : Crt) t => c.put t.fro t.sl) c).view = c.view ∧ (l.foldl (fun (c : Crt) t => c.put t.fro t.sl) c).block = c.block
  | [], _ => ⟨rfl, rfl⟩
  | t :: r, c => by
    have h1 := puts_same r (c.put t.fro t.sl)
    have h2 := put_same c t.fro t.sl
    exact ⟨h1.1.trans h2.1, h1.2.trans h2.2⟩
theorem inv_proposal {m : Mem} (h : Inv m) (x : Msg) (hx : x.block.Ok) : Inv (m.proposal x).1 := by
  unfold Mem.proposal
  dsimp only
  split
  · exact h
  · rename_i h1
    split
    · exact h
    · split
      · exact h
      · rename_i p hp
        split
        · exact h
        · rename_i h3
          split
          · exact h
          · have hx1 : 1 ≤ x.view ∧ x.view ≤ 1000 := ⟨by omega, by omega⟩
            have hh : Held m x.block.just := ⟨by omega, hx.j, p, hp, by simpa using h3⟩
            have hk : Inv (m.knows x.block) := inv_knows h x.block hh ⟨by omega, by omega, hx, by omega⟩
            have hl : Inv ((m.knows x.block).learn x.block.just) := inv_learn hk _ (hh.of_blocks fun n b hb => knows_keeps hb)
            refine inv_enter ?_ _ ?_
            · split
              · exact hl.same rfl rfl rfl rfl ⟨hl.v0, hl.v1⟩ ⟨by show 0 ≤ x.view; omega, hx1.2⟩ hl.w0 hl.hi hl.lk hl.qc hl.ql hl.vt
              · exact hl
            · split <;> omega
theorem inv_vote {m : Mem} (h : Inv m) (x : Msg) (hx : x.number < 18446744073709551616) : Inv (m.vote x).1 := by
  unfold Mem.vote
  dsimp only
  split
  · exact h
  · rename_i h1
    split
    · exact h
    · split
      · exact h
      · rename_i b hb
        split
        · exact h
        · rename_i h3
          split
          · exact h
          · split
            · exact h
            · have hx1 : 1 ≤ x.view ∧ x.view ≤ 999 := ⟨by omega, by omega⟩
              have hm1 : Inv ({ m with votes := m.votes ++ [⟨x.fro, x.view, x.number, x.sl⟩] } : Mem) := h.same rfl rfl rfl rfl ⟨h.v0, h.v1⟩ ⟨h.t0, h.t1⟩ h.w0 h.hi h.lk h.qc h.ql (fun t ht => by
                rcases List.mem_append.1 ht with h4 | h4
                · exact h.vt t h4
                · simp at h4; subst h4; exact ⟨by show 0 ≤ x.fro; omega, by show x.fro ≤ 3; omega⟩)
              split
              · have e1 := put_same ((m.votesFor x.number).foldl (fun (c : Crt) t => c.put t.fro t.sl) { Crt.zero with view := x.view, block := x.number }) x.fro x.sl
                have e2 := puts_same (m.votesFor x.number) { Crt.zero with view := x.view, block := x.number }
                have ev := e1.1.trans e2.1
                have eb := e1.2.trans e2.2
                dsimp only at ev eb
                have hl := inv_learn hm1 (((m.votesFor x.number).foldl (fun (c : Crt) t => c.put t.fro t.sl) { Crt.zero with view := x.view, block := x.number }).put x.fro x.sl) ⟨by rw [ev]; omega, ⟨by rw [ev]; omega, by rw [ev]; omega, by rw [eb]; exact hx⟩, b, by rw [eb]; exact hb, by rw [ev]; simpa using h3⟩
                dsimp only
                split
                · exact inv_enter hl _ ⟨by omega, by omega⟩
                · exact hl
              · exact hm1
theorem inv_enters1 {m : Mem} (h : Inv m) (x : Msg) (hx : x.cert.Ok) : Inv (m.enters1 x).1 := by
  unfold Mem.enters1
  dsimp only
  split
  · exact h
  · rename_i h1
    split
    · exact h
    · split
      · exact h
      · rename_i b hb
        split
        · exact h
        · rename_i h3
          split
          · exact h
          · split
            · exact h
            · have hm1 : Inv ({ m with enters := m.enters ++ [⟨x.fro, x.view, 0, 0⟩] } : Mem) := h.same rfl rfl rfl rfl ⟨h.v0, h.v1⟩ ⟨h.t0, h.t1⟩ h.w0 h.hi h.lk h.qc h.ql h.vt
              have hl := inv_learn hm1 x.cert ⟨by omega, hx, b, hb, by simpa using h3⟩
              split
              · exact inv_enter hl _ ⟨by omega, by omega⟩
              · exact hl
/-- A message whose numbers are of the language. -/
structure Msg.Ok (x : Msg) : Prop where
  b : x.block.Ok
  n : x.number < 18446744073709551616
  c : x.cert.Ok
theorem inv_takes {m : Mem} (h : Inv m) (x : Msg) (hx : x.Ok) : Inv (m.takes x).1 := by
  unfold Mem.takes
  split
  · exact inv_proposal h x hx.b
  · split
    · exact inv_vote h x hx.n
    · split
      · exact inv_enters1 h x hx.c
      · exact h
theorem inv_handle {m : Mem} (h : Inv m) (x : Msg) (hx : x.Ok) : Inv (m.handle x).1 := inv_ends (inv_takes h x hx)

/-- How many a member keeps. -/
theorem knows_len (m : Mem) (b : Blk) : (m.knows b).blocks.length ≤ m.blocks.length + 1 := by
  unfold Mem.knows
  split
  · omega
  · simp
theorem ends_len (m : Mem) : m.ends.1.blocks.length ≤ m.blocks.length + 1 := by
  cases hm : m.may with
  | false => rw [ends_no hm]; simp
  | true => rw [ends_yes hm]; exact knows_len m.noted m.next
theorem takes_len (m : Mem) (x : Msg) : (m.takes x).1.blocks.length ≤ m.blocks.length + 1 := by
  unfold Mem.takes
  split
  · unfold Mem.proposal
    dsimp only
    repeat (first | (split; · exact Nat.le_succ _) | split)
    all_goals first
      | exact Nat.le_succ _
      | (show ((m.knows x.block).learn x.block.just).blocks.length ≤ _
         rw [(learn_keeps _ _).b]; exact knows_len m x.block)
  · split
    · unfold Mem.vote
      dsimp only
      repeat' split
      all_goals first
        | exact Nat.le_succ _
        | (show (Mem.learn _ _).blocks.length ≤ _; rw [(learn_keeps _ _).b]; exact Nat.le_succ _)
    · split
      · unfold Mem.enters1
        dsimp only
        repeat' split
        all_goals first
          | exact Nat.le_succ _
          | (show (Mem.learn _ _).blocks.length ≤ _; rw [(learn_keeps _ _).b]; exact Nat.le_succ _)
      · exact Nat.le_succ _
theorem handle_len (m : Mem) (x : Msg) : (m.handle x).1.blocks.length ≤ m.blocks.length + 2 := by
  have h1 := ends_len (m.takes x).1
  have h2 := takes_len m x
  show (m.takes x).1.ends.1.blocks.length ≤ _
  omega
theorem len_of_sub : ∀ {l r : List Nat}, l.Nodup → (∀ x ∈ l, x ∈ r) → l.length ≤ r.length
  | [], _, _, _ => Nat.zero_le _
  | a :: l, r, h, hs => by
    obtain ⟨h1, h2⟩ := List.nodup_cons.1 h
    have ha : a ∈ r := hs a (by simp)
    have ih := len_of_sub (r := r.erase a) h2 (fun x hx => (List.mem_erase_of_ne (a := x) (b := a) (fun e => h1 (by rw [← e]; exact hx))).2 (hs x (by simp [hx])))
    rw [List.length_erase_of_mem ha] at ih
    have := List.length_pos_of_mem ha
    simp only [List.length_cons]
    omega
/-- The log holds no more than the blocks that are known. -/
theorem log_len {m : Mem} (h : Inv m) : m.log.length ≤ m.blocks.length := by
  have := len_of_sub (r := m.blocks.map (·.1)) h.nd (fun n hn => mem_num (h.lg n hn).2)
  simpa using this
end Go.Proofs.YtkehpnobidendaaDoor
