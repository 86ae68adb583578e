/- Memory: which blocks a step may turn (Fr), a slice of our own at whatever place of its block (Row), and what append makes of it. Memory: a record behind a pointer with slices of its own (Bun): what a store, an append, a step elsewhere make of it. -/
import Derived.Test.YtkehpnobidendaaGreatDoorProg
import Derived.WalkKit
import Derived.WalkSpells
import Derived.WalkLawsBesides
import Derived.ArgAppend
import Derived.Deep.MidRow
namespace Go.Proofs.YtkehpnobidendaaGreatDoor
open Go.RowKit

/-- Only blocks in S, and new ones, may have turned. -/
structure Fr (S : Nat → Prop) (w w' : World) : Prop where
  os : w'.os = w.os
  tape : w'.tape = w.tape
  output : w'.output = w.output
  size : w.heap.size ≤ w'.heap.size
  block : ∀ k, k < w.heap.size → ¬ S k → w'.heap[k]? = w.heap[k]?
theorem Fr.refl (S : Nat → Prop) (w : World) : Fr S w w := ⟨rfl, rfl, rfl, Nat.le_refl _, fun _ _ _ => rfl⟩
/-- The blocks that may turn behind a step: those of before, and the new ones. -/
theorem Fr.trans {S S' : Nat → Prop} {a b c : World} (h : Fr S a b) (k : Fr S' b c) (hs : ∀ i, S' i → S i ∨ a.heap.size ≤ i) : Fr S a c :=
  ⟨k.os.trans h.os, k.tape.trans h.tape, k.output.trans h.output, Nat.le_trans h.size k.size, fun i hi hn => (k.block i (Nat.lt_of_lt_of_le hi h.size) (fun hS => by rcases hs i hS with h1 | h1; exact hn h1; omega)).trans (h.block i hi hn)⟩
theorem Fr.of_below {S : Nat → Prop} {w w' : World} (h : Below w.heap.size w w') : Fr S w w' := ⟨h.os, h.tape, h.output, h.size, fun k hk _ => h.block k hk⟩
theorem Fr.below {w w' : World} (h : Fr (fun _ => False) w w') : Below w.heap.size w w' := ⟨h.os, h.tape, h.output, h.size, fun k hk => h.block k hk (fun h => h)⟩
theorem Fr.mono {S S' : Nat → Prop} {w w' : World} (h : Fr S w w') (hs : ∀ i, S i → S' i) : Fr S' w w' := ⟨h.os, h.tape, h.output, h.size, fun k hk hn => h.block k hk (fun x => hn (hs k x))⟩
theorem Fr.alloc (S : Nat → Prop) (w : World) (o : Obj) : Fr S w (w.alloc o) := Fr.of_below ((Below.refl _ _).alloc (Nat.le_refl _) o)
theorem Fr.drew (S : Nat → Prop) (w : World) : Fr S w w.drew := ⟨rfl, rfl, rfl, Nat.le_refl _, fun _ _ _ => rfl⟩
theorem Fr.setCell {S : Nat → Prop} (w : World) {a : Addr} (hs : S a.block) (v : Value) : Fr S w (w.setCell a v) :=
  ⟨rfl, rfl, rfl, by simp [World.setCell], fun k _ hn => Below.heap_setCell w a v k (fun e => hn (e ▸ hs))⟩
theorem Fr.grown {S : Nat → Prop} {w w' : World} {row : Option Nat} (h : w.grownBy w' row) (hs : ∀ k, row = some k → S k) : Fr S w w' :=
  ⟨h.os, h.tape, h.output, h.size, fun k hk hn => h.block k hk (fun e => hn (hs k e.symm))⟩

/-- A block's object behind a store into one of its cells. -/
theorem heap_store {w : World} {p i : Nat} {C : Array Value} {T : TypeId} {f : Nat × Nat} (h : w.heap[p]? = some (.cells C T f)) (v : Value) : (w.setCell ⟨p, i, none⟩ v).heap[p]? = some (.cells (C.setIfInBounds i v) T f) := by
  have hp : p < w.heap.size := (Array.getElem?_eq_some_iff.1 h).1
  simp only [World.setCell, Array.getElem?_modify, h, if_true]
  rfl
theorem heap_store_ne {w : World} {k p i : Nat} (v : Value) (h : k ≠ p) : (w.setCell ⟨p, i, none⟩ v).heap[k]? = w.heap[k]? := Below.heap_setCell w ⟨p, i, none⟩ v k h
theorem cell_at {w : World} {p : Nat} {C : Array Value} {T : TypeId} {f : Nat × Nat} (h : w.heap[p]? = some (.cells C T f)) (i : Nat) : w.cell? ⟨p, i, none⟩ = C[i]? := by simp [World.cell?, h]
theorem free_at {w : World} {p : Nat} {C : Array Value} {T : TypeId} (h : w.heap[p]? = some (.cells C T (0, 0))) (i : Nat) : w.frozen? ⟨p, i, none⟩ = false := by simp [World.frozen?, h]
theorem lt_at {w : World} {p : Nat} {o : Obj} (h : w.heap[p]? = some o) : p < w.heap.size := (Array.getElem?_eq_some_iff.1 h).1

/-- The slice v, of n elements of 'size' cells each, holds the cells xs, in a block of S, not frozen. -/
structure Row (w : World) (S : Nat → Prop) (e : TypeId) (size : Nat) (v : Value) (n : Nat) (xs : List Value) : Prop where
  len : xs.length = n * size
  val : ((v = .slice none 0 0 ∧ n = 0) ∨
    ∃ g off cap cur, v = .slice (some ⟨g, off, none⟩) n cap ∧ S g ∧ w.heap[g]? = some (.cells cur e (0, 0)) ∧ n ≤ cap ∧ cap ≤ maxLen ∧ off + cap * size ≤ cur.size ∧ (cur.toList.drop off).take (n * size) = xs)
theorem Row.nil (w : World) (S : Nat → Prop) (e : TypeId) (size : Nat) : Row w S e size (.slice none 0 0) 0 [] := ⟨by simp, .inl ⟨rfl, rfl⟩⟩
theorem Row.same {w w' : World} {S S' : Nat → Prop} {e : TypeId} {size : Nat} {v : Value} {n : Nat} {xs : List Value} (h : Row w S e size v n xs) (hb : ∀ k, S k → k < w.heap.size → w'.heap[k]? = w.heap[k]? ∧ S' k) : Row w' S' e size v n xs := by
  refine ⟨h.1, ?_⟩
  rcases h.2 with hn | ⟨g, off, cap, cur, rfl, hS, hg, rest⟩
  · exact .inl hn
  · have := hb g hS (lt_at hg)
    exact .inr ⟨g, off, cap, cur, rfl, this.2, this.1.trans hg, rest⟩
theorem Row.cellAt {w : World} {S : Nat → Prop} {e : TypeId} {size : Nat} {g off n cap : Nat} {xs : List Value} (h : Row w S e size (.slice (some ⟨g, off, none⟩) n cap) n xs) (j : Nat) (hj : j < n * size) : w.cell? ⟨g, off + j, none⟩ = xs[j]? := by
  rcases h.2 with ⟨h0, _⟩ | ⟨g', off', cap', cur, hv, hS, hg, hnc, hm, hs, hx⟩
  · cases h0
  · cases hv
    rw [cell_at hg, ← hx, List.getElem?_take_of_lt hj, List.getElem?_drop]
    simp
theorem Row.freeAt {w : World} {S : Nat → Prop} {e : TypeId} {size : Nat} {g off n cap : Nat} {xs : List Value} (h : Row w S e size (.slice (some ⟨g, off, none⟩) n cap) n xs) (j : Nat) : w.frozen? ⟨g, j, none⟩ = false := by
  rcases h.2 with ⟨h0, _⟩ | ⟨g', off', cap', cur, hv, hS, hg, hnc, hm, hs, hx⟩
  · cases h0
  · cases hv; exact free_at hg j
/-- What it is: nil, or a place. -/
theorem Row.shape {w : World} {S : Nat → Prop} {e : TypeId} {size : Nat} {v : Value} {n : Nat} {xs : List Value} (h : Row w S e size v n xs) : (v = .slice none 0 0 ∧ n = 0 ∧ xs = []) ∨ ∃ g off cap, v = .slice (some ⟨g, off, none⟩) n cap ∧ S g ∧ g < w.heap.size ∧ n ≤ cap := by
  rcases h.2 with ⟨h0, rfl⟩ | ⟨g', off', cap', cur, hv, hS, hg, hnc, hm, hs, hx⟩
  · exact .inl ⟨h0, rfl, List.eq_nil_of_length_eq_zero (by simpa using h.1)⟩
  · exact .inr ⟨g', off', cap', hv, hS, lt_at hg, hnc⟩

theorem Row.isSlice {w : World} {S : Nat → Prop} {e : TypeId} {size : Nat} {v : Value} {n : Nat} {xs : List Value} (h : Row w S e size v n xs) : ∃ a cap, v = .slice a n cap := by
  rcases h.shape with ⟨rfl, rfl, _⟩ | ⟨g, off, cap, rfl, _⟩
  · exact ⟨none, 0, rfl⟩
  · exact ⟨_, _, rfl⟩
theorem Row.below {w w' : World} {S : Nat → Prop} {e : TypeId} {size : Nat} {v : Value} {n : Nat} {xs : List Value} (h : Row w S e size v n xs) (hf : Below w.heap.size w w') : Row w' S e size v n xs := h.same fun k hk hl => ⟨hf.block k hl, hk⟩
theorem Row.alloc {w : World} {S : Nat → Prop} {e : TypeId} {size : Nat} {v : Value} {n : Nat} {xs : List Value} (h : Row w S e size v n xs) (o : Obj) : Row (w.alloc o) S e size v n xs := h.below ((Below.refl _ _).alloc (Nat.le_refl _) o)
theorem Row.drew {w : World} {S : Nat → Prop} {e : TypeId} {size : Nat} {v : Value} {n : Nat} {xs : List Value} (h : Row w S e size v n xs) : Row w.drew S e size v n xs := ⟨h.1, h.2⟩
theorem run_room (P : Program) (w : World) (t ty e : TypeId) (i : TypeInfo) (ht : P.underlying t = some (.slice e)) (hi : P.info? e = some i)
    (g off sLen sCap : Nat) (cur : Array Value) (hg : w.heap[g]? = some (.cells cur e (0, 0)))
    (a : Addr) (m c : Nat) (news : List Value) (hl : news.length = m * i.size) (hnews : ∀ j u, news[j]? = some u → w.cell? (a.add j) = some u) (h1 : ∀ u ∈ news, u.oneCell' = true)
    (hroom : sLen + m ≤ sCap) (hfit : off + sLen * i.size + news.length ≤ cur.size) :
    (Builtin.append_ #[t, t] ty #[.slice (some ⟨g, off, none⟩) sLen sCap, .slice (some a) m c]).run P w =
      .ok (.slice (some ⟨g, off, none⟩) (sLen + m) sCap) (w.setRow g (cur.toList.take (off + sLen * i.size) ++ news ++ cur.toList.drop (off + sLen * i.size + news.length)).toArray) := by
  have hf := run_firstCells_some (P := P) w i.size m a m c news hl hnews
  have hst := run_storeCells_at P g (off + sLen * i.size) e news 0 cur w hg (by simpa using hfit) h1
  simp only [Nat.add_zero] at hst
  simp [Builtin.append_, run_underlying ht, sizeOf, typeInfo, hi, Builtin.lenOf, hroom, hf, Addr.add_lit, hst]

/-- What append makes of a slice of our own: the row is longer, in its own block or in a new one; only its own block turns. -/
theorem run_append_row (P : Program) (w : World) (S : Nat → Prop) (t ty e : TypeId) (i : TypeInfo) (z : Value) (size bytes : Nat) (ht : P.underlying t = some (.slice e)) (hi : P.info? e = some i) (hz : i.zero = some z)
    (hsize : i.size = size) (hby : i.bytes = bytes) (hzs : z.cells.size = size)
    (v : Value) (n : Nat) (xs : List Value) (hown : Row w S e size v n xs)
    (a : Addr) (m c : Nat) (news : List Value) (hl : news.length = m * size) (hnews : ∀ j u, news[j]? = some u → w.cell? (a.add j) = some u) (h1 : ∀ u ∈ news, u.oneCell' = true)
    (hm0 : 0 < m) (h63 : n + m ≤ maxLen) (hbytes : (n + m) * bytes ≤ 140737488355328) :
    ∃ v' w', (Builtin.append_ #[t, t] ty #[v, .slice (some a) m c]).run P w = .ok v' w' ∧ Row w' (fun k => v.ownBlock = some k ∨ k = w.heap.size) e size v' (n + m) (xs ++ news) ∧ Fr (fun k => v.ownBlock = some k) w w' := by
  subst hsize
  subst hby
  have hsmall : n + m ≤ 9223372036854775807 := by simp only [maxLen] at h63; omega
  have hlen : (xs ++ news).length = (n + m) * i.size := by rw [List.length_append, hown.1, hl, Nat.add_mul]
  have grown : ∀ (old : Nat), old < n + m → ∀ (row : Option Nat),
      Row (w.drew.alloc (.cells (xs.toArray ++ news.toArray ++ Builtin.zeroCells z.cells (grownCap w (n + m) old e - (n + m))) e)) (fun k => row = some k ∨ k = w.heap.size) e i.size
        (.slice (some ⟨w.heap.size, 0, none⟩) (n + m) (grownCap w (n + m) old e)) (n + m) (xs ++ news) ∧
      Fr (fun k => row = some k) w (w.drew.alloc (.cells (xs.toArray ++ news.toArray ++ Builtin.zeroCells z.cells (grownCap w (n + m) old e - (n + m))) e)) := by
    intro old ho row
    have hge := grownCap_ge w (n + m) old e
    have hcm : grownCap w (n + m) old e ≤ maxLen := grownCap_le_maxLen w (n + m) old e h63
    refine ⟨⟨hlen, .inr ⟨w.heap.size, 0, _, _, rfl, .inr rfl, heap_alloc_new w.drew _, hge, hcm, ?_, ?_⟩⟩, ⟨rfl, rfl, rfl, by simp, fun k hk _ => Below.heap_alloc w.drew _ k hk⟩⟩
    · simp only [Array.size_append, List.size_toArray, size_zeroCells, hzs, hown.1, hl, ← Nat.add_mul, Nat.zero_add]
      exact Nat.mul_le_mul_right _ (by omega)
    · simp only [Array.toList_append, List.append_assoc, List.drop_zero]
      rw [← List.append_assoc, ← hlen]
      exact List.take_left
  rcases hown.2 with ⟨rfl, rfl⟩ | ⟨g, off, cap, cur, rfl, hS, hg, hnc, hcm, hcs, htake⟩
  · have hx : xs = [] := List.eq_nil_of_length_eq_zero (by simpa using hown.1)
    subst hx
    have hr := run_append_nil (P := P) w t ty e i z ht hi hz a m c news hl hnews (by omega) (by omega) (by have hb := hbytes; simp only [Nat.zero_add] at hb; omega)
    have hgr := grown 0 (by omega) (Value.ownBlock (.slice none 0 0))
    simp only [Nat.zero_add, List.nil_append, Array.empty_append] at hgr ⊢
    exact ⟨_, _, hr, hgr.1, hgr.2⟩
  · by_cases hroom : n + m ≤ cap
    · have hmul : (n + m) * i.size ≤ cap * i.size := Nat.mul_le_mul_right _ hroom
      have hfit : off + n * i.size + news.length ≤ cur.size := by rw [hl]; rw [Nat.add_mul] at hmul; omega
      have hr := run_room P w t ty e i ht hi g off n cap cur hg a m c news hl hnews h1 hroom hfit
      refine ⟨_, _, hr, ⟨hlen, .inr ⟨g, off, cap, _, rfl, .inl rfl, setRow_heap w g cur _ e _ hg, hroom, hcm, ?_, ?_⟩⟩, ⟨rfl, rfl, rfl, by simp, fun k _ hk => setRow_other w g k _ (fun e => hk (by simp [Value.ownBlock, e]))⟩⟩
      · simp only [List.size_toArray, List.length_append, List.length_take, List.length_drop, Array.length_toList]
        omega
      · simp only
        rw [List.append_assoc, List.drop_append_of_le_length (by simp; omega)]
        have h2 : (cur.toList.take (off + n * i.size)).drop off = xs := by
          rw [List.drop_take, ← htake]; congr 1; omega
        rw [h2, ← List.append_assoc, ← hlen]
        exact List.take_left
    · have holds : ∀ j u, xs[j]? = some u → w.cell? ((⟨g, off, none⟩ : Addr).add j) = some u := fun j u hj => by
        rw [Addr.add_lit, hown.cellAt j (by rw [← hown.1]; exact (List.getElem?_eq_some_iff.1 hj).1)]; exact hj
      have hr := run_append_grow (P := P) w t ty e i z ht hi hz ⟨g, off, none⟩ n cap xs hown.1 holds a m c news hl hnews (by omega) (by omega) (growslice_fits (by omega) hbytes)
      have hgr := grown cap (by omega) (Value.ownBlock (.slice (some ⟨g, off, none⟩) n cap))
      exact ⟨_, _, hr, hgr.1, hgr.2⟩

/-- The same, at the operation. -/
theorem wpList_append_row {P : Program} {w : World} {ops : Array Oper} {rest : List Oper} {o : Oper} {a : Act} {Q : Exit → Act → World → Prop} (hgd : o.guard = none) (s x : Operand) (t : TypeId)
    (ho : o.op = .call { callee := .builtin .append, args := #[s, x], argTypes := #[t, t] })
    (S : Nat → Prop) (e : TypeId) (z : Value) (size bytes : Nat) (ht : P.underlying t = some (.slice e)) (hi : (P.info? e).map (fun i => (i.zero, i.size, i.bytes)) = some (some z, size, bytes)) (hzs : z.cells.size = size)
    (v : Value) (n : Nat) (xs : List Value) (hs : a.eval s = v) (hown : Row w S e size v n xs)
    (ad : Addr) (m c : Nat) (news : List Value) (hx : a.eval x = .slice (some ad) m c) (hl : news.length = m * size) (hnews : ∀ j u, news[j]? = some u → w.cell? (ad.add j) = some u) (h1 : ∀ u ∈ news, u.oneCell' = true)
    (hm0 : 0 < m) (h63 : n + m ≤ maxLen) (hbytes : (n + m) * bytes ≤ 140737488355328)
    (h : ∀ v' w', Row w' (fun k => v.ownBlock = some k ∨ k = w.heap.size) e size v' (n + m) (xs ++ news) → Fr (fun k => v.ownBlock = some k) w w' → wpList P ops Q rest (a.put o.dst v') w') : wpList P ops Q (o :: rest) a w := by
  refine wpList_plain hgd fun K hK => ?_
  obtain ⟨i0, hi0, hz0, hz1, hz2⟩ := info_parts hi
  obtain ⟨v', w', hr, h2, h3⟩ := run_append_row P w S t o.type e i0 z size bytes ht hi0 hz0 hz1 hz2 hzs v n xs hown ad m c news hl hnews h1 hm0 h63 hbytes
  unfold Oper.wp execOp
  simp only [ho, resolve, invoke, builtin, Sem.run_bind, Sem.run_pure, Result.andThen_ok, List.map_toArray, List.map_cons, List.map_nil, hs, hx, hr]
  exact hK _ _ (h v' w' h2 h3)
/-- The same, in a region that draws its order. -/
theorem step_append_row {P : Program} {w : World} {ops : Array Oper} {o : Oper} {a : Act} {K : Act → World → Prop} {Q : Exit → Act → World → Prop} {E : Prop} (hgd : o.guard = none) (s x : Operand) (t : TypeId)
    (ho : o.op = .call { callee := .builtin .append, args := #[s, x], argTypes := #[t, t] })
    (S : Nat → Prop) (e : TypeId) (z : Value) (size bytes : Nat) (ht : P.underlying t = some (.slice e)) (hi : (P.info? e).map (fun i => (i.zero, i.size, i.bytes)) = some (some z, size, bytes)) (hzs : z.cells.size = size)
    (v : Value) (n : Nat) (xs : List Value) (hs : a.eval s = v) (hown : Row w S e size v n xs)
    (ad : Addr) (m c : Nat) (news : List Value) (hx : a.eval x = .slice (some ad) m c) (hl : news.length = m * size) (hnews : ∀ j u, news[j]? = some u → w.cell? (ad.add j) = some u) (h1 : ∀ u ∈ news, u.oneCell' = true)
    (hm0 : 0 < m) (h63 : n + m ≤ maxLen) (hbytes : (n + m) * bytes ≤ 140737488355328)
    (h : ∀ v' w', Row w' (fun k => v.ownBlock = some k ∨ k = w.heap.size) e size v' (n + m) (xs ++ news) → Fr (fun k => v.ownBlock = some k) w w' → K (a.put o.dst v') w') :
    if Region.wanted o (yielded ops a.tmps) = true then Oper.wp P o a w K Q else E := by
  have hw : Region.wanted o (yielded ops a.tmps) = true := by simp [Region.wanted, hgd]
  rw [if_pos hw]
  obtain ⟨i0, hi0, hz0, hz1, hz2⟩ := info_parts hi
  obtain ⟨v', w', hr, h2, h3⟩ := run_append_row P w S t o.type e i0 z size bytes ht hi0 hz0 hz1 hz2 hzs v n xs hown ad m c news hl hnews h1 hm0 h63 hbytes
  unfold Oper.wp execOp
  simp only [ho, resolve, invoke, builtin, Sem.run_bind, Sem.run_pure, Result.andThen_ok, List.map_toArray, List.map_cons, List.map_nil, hs, hx, hr]
  exact h v' w' h2 h3
/-- A load, or a store, of a great struct, kept whole in the walk: 'attribute [local go_sem ↓]' of 'loadVar T a = rowVar T a'. -/
def rowVar (t : TypeId) (a : Addr) : Sem Value := loadVar t a
def rowPut (t : TypeId) (a : Addr) (v : Value) : Sem Unit := storeVar t a v
theorem rowVar_whole {P : Program} (w : World) (g : Nat) (t ty : TypeId) (cs : Array Value) (fr : Nat × Nat) (d : TypeDesc) (hg : w.heap[g]? = some (.cells cs t fr)) (hu : P.underlying ty = some d) (hd : (match d with | .struct _ | .array _ _ => true | _ => false) = true) (hi : (P.info? ty).map (·.size) = some cs.size) :
    (rowVar ty ⟨g, 0, none⟩).run P w = .ok (.agg cs) w := run_loadVar_row w g t ty cs fr d hg hu hd hi
theorem rowVar_mid {P : Program} (w : World) (b o : Nat) (ty : TypeId) (cs : List Value) (d : TypeDesc) (hc : w.rangeAt b o cs) (hu : P.underlying ty = some d) (hd : d.isRow = true) (hi : (P.info? ty).map (·.size) = some cs.length) :
    (rowVar ty ⟨b, o, none⟩).run P w = .ok (.agg cs.toArray) w := run_loadVar_mid w b o ty cs d hc hu hd hi
theorem rowPut_mid {P : Program} (w : World) (b o : Nat) (ty : TypeId) (cells : Array Value) (ht : w.there b o cells.size) (hi : (P.info? ty).map (·.size) = some cells.size) (h1 : cells.all (·.oneCell') = true) :
    (rowPut ty ⟨b, o, none⟩ (.agg cells)).run P w = .ok () (w.setCells b o cells.toList) := run_storeVar_mid w b o ty cells ht hi h1
end Go.Proofs.YtkehpnobidendaaGreatDoor

namespace Go.Proofs.YtkehpnobidendaaGreatDoor
open Go.RowKit

theorem flat_len {α β : Type} {f : α → List β} {s : Nat} (hf : ∀ a, (f a).length = s) (l : List α) : (l.flatMap f).length = l.length * s := by
  induction l with
  | nil => simp
  | cons a r ih => simp [hf, ih, Nat.add_mul, Nat.add_comm]
theorem flat_get {α β : Type} {f : α → List β} {s : Nat} (hf : ∀ a, (f a).length = s) : ∀ (l : List α) (i j : Nat) (hi : i < l.length), j < s → (l.flatMap f)[i * s + j]? = (f l[i])[j]?
  | a :: r, 0, j, _, hj => by
    simp only [List.flatMap_cons, Nat.zero_mul, Nat.zero_add, List.getElem_cons_zero]
    rw [List.getElem?_append_left (by rw [hf]; exact hj)]
  | a :: r, i + 1, j, hi, hj => by
    simp only [List.flatMap_cons, List.getElem_cons_succ]
    have e : (i + 1) * s + j = s + (i * s + j) := by rw [Nat.add_mul]; omega
    rw [e, List.getElem?_append_right (by rw [hf]; omega), hf, Nat.add_sub_cancel_left]
    exact flat_get hf r i j (by simpa using hi) hj
theorem mul_lt {i j n s : Nat} (hi : i < n) (hj : j < s) : i * s + j < n * s := by
  have : (i + 1) * s ≤ n * s := Nat.mul_le_mul_right _ hi
  rw [Nat.add_mul] at this; omega
/-- An element's cell. -/
theorem Row.elem {α : Type} {f : α → List Value} {s : Nat} (hf : ∀ a, (f a).length = s) {w : World} {S : Nat → Prop} {e : TypeId} {g off cap : Nat} {l : List α} (h : Row w S e s (.slice (some ⟨g, off, none⟩) l.length cap) l.length (l.flatMap f)) (i j : Nat) (hi : i < l.length) (hj : j < s) : w.cell? ⟨g, off + (i * s + j), none⟩ = (f l[i])[j]? := by
  rw [h.cellAt _ (mul_lt hi hj), flat_get hf l i j hi hj]
theorem Row.elemAt {α : Type} {f : α → List Value} {s : Nat} (hf : ∀ a, (f a).length = s) {w : World} {S : Nat → Prop} {e : TypeId} {g off cap : Nat} {l : List α} (h : Row w S e s (.slice (some ⟨g, off, none⟩) l.length cap) l.length (l.flatMap f)) (i : Nat) (hi : i < l.length) : w.rangeAt g (off + i * s) (f l[i]) := by
  intro j v hv
  have hj : j < s := by rw [← hf l[i]]; exact (List.getElem?_eq_some_iff.1 hv).1
  have := h.elem hf i j hi hj
  rw [← Nat.add_assoc] at this
  rw [this]; exact hv

/-- A record at p, with slices of its own: all in S; no two in one block. -/
structure Bun (w : World) (p : Nat) (T : TypeId) (S : Nat → Prop) (C : Array Value) (V : List Value) (E : List (TypeId × Nat)) (X : List (Nat × List Value)) : Prop where
  sp : S p
  box : w.heap[p]? = some (.cells C T (0, 0))
  row : ∀ (i : Nat) (v : Value) (e : TypeId × Nat) (x : Nat × List Value), V[i]? = some v → E[i]? = some e → X[i]? = some x → Row w S e.1 e.2 v x.1 x.2
  off : ∀ (i : Nat) (v : Value), V[i]? = some v → v.ownBlock ≠ some p
  apart : ∀ (i j : Nat) (v u : Value) (k : Nat), V[i]? = some v → V[j]? = some u → i ≠ j → v.ownBlock = some k → u.ownBlock ≠ some k
  all : V.length ≤ E.length ∧ V.length ≤ X.length
  lt : ∀ k, S k → k < w.heap.size
theorem Row.ownS {w : World} {S : Nat → Prop} {e : TypeId} {size : Nat} {v : Value} {n : Nat} {xs : List Value} (h : Row w S e size v n xs) {k : Nat} (hk : v.ownBlock = some k) : S k ∧ k < w.heap.size := by
  rcases h.shape with ⟨rfl, _⟩ | ⟨g, off, cap, rfl, hS, hg, _⟩
  · cases hk
  · cases hk; exact ⟨hS, hg⟩
theorem Bun.own {w : World} {p : Nat} {T : TypeId} {S : Nat → Prop} {C : Array Value} {V : List Value} {E : List (TypeId × Nat)} {X : List (Nat × List Value)} (h : Bun w p T S C V E X) {i : Nat} {v : Value} (hv : V[i]? = some v) {k : Nat} (hk : v.ownBlock = some k) : S k ∧ k < w.heap.size := by
  have hi : i < V.length := (List.getElem?_eq_some_iff.1 hv).1
  exact (h.row i v _ _ hv (List.getElem?_eq_getElem (Nat.lt_of_lt_of_le hi h.all.1)) (List.getElem?_eq_getElem (Nat.lt_of_lt_of_le hi h.all.2))).ownS hk
/-- A step that leaves all its blocks as they were. -/
theorem Bun.same {w w' : World} {p : Nat} {T : TypeId} {S : Nat → Prop} {C : Array Value} {V : List Value} {E : List (TypeId × Nat)} {X : List (Nat × List Value)} (h : Bun w p T S C V E X) (hs : w.heap.size ≤ w'.heap.size)
    (hb : ∀ k, S k → w'.heap[k]? = w.heap[k]?) : Bun w' p T S C V E X :=
  ⟨h.sp, (hb p h.sp).trans h.box, fun i v e x h1 h2 h3 => (h.row i v e x h1 h2 h3).same (fun k hk _ => ⟨hb k hk, hk⟩), h.off, h.apart, h.all, fun k hk => Nat.lt_of_lt_of_le (h.lt k hk) hs⟩
theorem Bun.fr {w w' : World} {Z : Nat → Prop} {p : Nat} {T : TypeId} {S : Nat → Prop} {C : Array Value} {V : List Value} {E : List (TypeId × Nat)} {X : List (Nat × List Value)} (h : Bun w p T S C V E X) (hf : Fr Z w w') (hz : ∀ k, S k → ¬ Z k) : Bun w' p T S C V E X :=
  h.same hf.size fun k hk => hf.block k (h.lt k hk) (hz k hk)
theorem Bun.below {w w' : World} {p : Nat} {T : TypeId} {S : Nat → Prop} {C : Array Value} {V : List Value} {E : List (TypeId × Nat)} {X : List (Nat × List Value)} (h : Bun w p T S C V E X) (hf : Below w.heap.size w w') : Bun w' p T S C V E X :=
  h.same hf.size fun k hk => hf.block k (h.lt k hk)
theorem Bun.mono {w : World} {S' : Nat → Prop} {p : Nat} {T : TypeId} {S : Nat → Prop} {C : Array Value} {V : List Value} {E : List (TypeId × Nat)} {X : List (Nat × List Value)} (h : Bun w p T S C V E X) (hs : ∀ k, S k → S' k) (hl : ∀ k, S' k → k < w.heap.size) : Bun w p T S' C V E X :=
  ⟨hs p h.sp, h.box, fun i v e x h1 h2 h3 => (h.row i v e x h1 h2 h3).same (fun k hk _ => ⟨rfl, hs k hk⟩), h.off, h.apart, h.all, hl⟩
/-- A store into the record (no slice of it). -/
theorem Bun.store {w : World} {p : Nat} {T : TypeId} {S : Nat → Prop} {C C' : Array Value} {V : List Value} {E : List (TypeId × Nat)} {X : List (Nat × List Value)} (h : Bun w p T S C V E X) (o : Nat) (x : Value) (hC : C.setIfInBounds o x = C') : Bun (w.setCell ⟨p, o, none⟩ x) p T S C' V E X := by
  subst hC
  refine ⟨h.sp, heap_store h.box x, fun i v e y h1 h2 h3 => ?_, h.off, h.apart, h.all, fun k hk => by rw [World.size_setCell]; exact h.lt k hk⟩
  have hr := h.row i v e y h1 h2 h3
  refine ⟨hr.1, ?_⟩
  rcases hr.2 with hn | ⟨g, off, cap, cur, rfl, hS, hg, rest⟩
  · exact .inl hn
  · have hne : g ≠ p := fun e => h.off i _ h1 (by rw [← e]; rfl)
    exact .inr ⟨g, off, cap, cur, rfl, hS, by rw [heap_store_ne x hne]; exact hg, rest⟩
/-- A slice of it is another one now: in its own block, or in a new one; and its field says so. -/
theorem Bun.put {w w1 : World} {p : Nat} {T : TypeId} {S : Nat → Prop} {C C' : Array Value} {V V' : List Value} {E : List (TypeId × Nat)} {X X' : List (Nat × List Value)} (h : Bun w p T S C V E X)
    (i : Nat) {v : Value} {e : TypeId × Nat} (hv : V[i]? = some v) (he : E[i]? = some e) (v' : Value) (x' : Nat × List Value) (hr : Row w1 (fun k => v.ownBlock = some k ∨ k = w.heap.size) e.1 e.2 v' x'.1 x'.2) (hf : Fr (fun k => v.ownBlock = some k) w w1)
    (o : Nat) (hC : C.setIfInBounds o v' = C') (hV : V.set i v' = V') (hX : X.set i x' = X') : Bun (w1.setCell ⟨p, o, none⟩ v') p T (fun k => S k ∨ v'.ownBlock = some k) C' V' E X' := by
  subst hC hV hX
  have hp := lt_at h.box
  have hbp : w1.heap[p]? = some (.cells C T (0, 0)) := (hf.block p hp (h.off i v hv)).trans h.box
  have hne : ∀ k, v'.ownBlock = some k → k ≠ p := fun k hk e => by
    rcases (hr.ownS hk).1 with h1 | h1
    · exact h.off i v hv (e ▸ h1)
    · omega
  have hother : ∀ j u k, V[j]? = some u → i ≠ j → u.ownBlock = some k → v'.ownBlock ≠ some k := fun j u k hu hij hk hk' => by
    rcases (hr.ownS hk').1 with h1 | h1
    · exact h.apart i j v u k hv hu hij h1 hk
    · exact absurd (h.own hu hk).2 (by omega)
  refine ⟨.inl h.sp, heap_store hbp _, fun j u e' x h1 h2 h3 => ?_, fun j u h1 => ?_, fun j l u t k h1 h2 hjl => ?_, by simpa using h.all, fun k hk => ?_⟩
  · rw [List.getElem?_set] at h1 h3
    by_cases hij : i = j
    · subst hij
      rw [if_pos rfl, if_pos (List.getElem?_eq_some_iff.1 hv).1] at h1
      cases h1
      rw [if_pos rfl] at h3
      split at h3
      · cases h3
        rw [he] at h2; cases h2
        refine ⟨hr.1, ?_⟩
        rcases hr.2 with hn | ⟨g, off, cap, cur, rfl, hS, hg, rest⟩
        · exact .inl hn
        · exact .inr ⟨g, off, cap, cur, rfl, .inr rfl, by rw [heap_store_ne _ (hne g rfl)]; exact hg, rest⟩
      · cases h3
    · rw [if_neg hij] at h1 h3
      have hr' := h.row j u e' x h1 h2 h3
      refine ⟨hr'.1, ?_⟩
      rcases hr'.2 with hn | ⟨g, off, cap, cur, rfl, hS, hg, rest⟩
      · exact .inl hn
      · have hgp : g ≠ p := fun e => h.off j _ h1 (by rw [← e]; rfl)
        refine .inr ⟨g, off, cap, cur, rfl, .inl hS, ?_, rest⟩
        rw [heap_store_ne _ hgp, hf.block g (lt_at hg) (fun hk => h.apart i j v _ g hv h1 hij hk rfl)]
        exact hg
  · rw [List.getElem?_set] at h1
    split at h1
    · split at h1
      · cases h1; exact fun e => hne p e rfl
      · cases h1
    · exact h.off j u h1
  · rw [List.getElem?_set] at h1 h2
    by_cases hij : i = j
    · subst hij
      rw [if_pos rfl, if_pos (List.getElem?_eq_some_iff.1 hv).1] at h1
      rw [if_neg hjl] at h2
      cases h1
      exact fun hk hk' => hother l t k h2 hjl hk' hk
    · rw [if_neg hij] at h1
      by_cases hil : i = l
      · subst hil
        rw [if_pos rfl, if_pos (List.getElem?_eq_some_iff.1 hv).1] at h2
        cases h2
        exact fun hk => hother j u k h1 hij hk
      · rw [if_neg hil] at h2
        exact h.apart j l u t k h1 h2 hjl
  · rw [World.size_setCell]
    rcases hk with hk | hk
    · exact Nat.lt_of_lt_of_le (h.lt k hk) hf.size
    · exact (hr.ownS hk).2
/-- The record itself behind an append to one of its slices. -/
theorem Bun.after {w w1 : World} {p : Nat} {T : TypeId} {S : Nat → Prop} {C : Array Value} {V : List Value} {E : List (TypeId × Nat)} {X : List (Nat × List Value)} (h : Bun w p T S C V E X) (i : Nat) {v : Value} (hv : V[i]? = some v) (hf : Fr (fun k => v.ownBlock = some k) w w1) : w1.heap[p]? = some (.cells C T (0, 0)) :=
  (hf.block p (lt_at h.box) (h.off i v hv)).trans h.box
theorem Bun.alloc {w : World} {p : Nat} {T : TypeId} {S : Nat → Prop} {C : Array Value} {V : List Value} {E : List (TypeId × Nat)} {X : List (Nat × List Value)} (h : Bun w p T S C V E X) (o : Obj) : Bun (w.alloc o) p T S C V E X := h.below ((Below.refl _ _).alloc (Nat.le_refl _) o)
theorem Bun.drew {w : World} {p : Nat} {T : TypeId} {S : Nat → Prop} {C : Array Value} {V : List Value} {E : List (TypeId × Nat)} {X : List (Nat × List Value)} (h : Bun w p T S C V E X) : Bun w.drew p T S C V E X := ⟨h.sp, h.box, fun i v e x a b c => (h.row i v e x a b c).drew, h.off, h.apart, h.all, h.lt⟩
/-- The frame of an append through a field. -/
theorem Bun.frPut {w w0 w1 : World} {p : Nat} {T : TypeId} {S : Nat → Prop} {C : Array Value} {V : List Value} {E : List (TypeId × Nat)} {X : List (Nat × List Value)} (h : Bun w0 p T S C V E X) (h0 : Fr S w w0) (i : Nat) {v : Value} (hv : V[i]? = some v) (hf : Fr (fun k => v.ownBlock = some k) w0 w1) (o : Nat) (x : Value) : Fr S w (w1.setCell ⟨p, o, none⟩ x) :=
  (h0.trans hf (fun _ hk => .inl (h.own hv hk).1)).trans (Fr.setCell w1 (S := S) h.sp x) (fun _ hk => .inl hk)
theorem Row.reown {w : World} {S S' : Nat → Prop} {e : TypeId} {size : Nat} {v : Value} {n : Nat} {xs : List Value} (h : Row w S e size v n xs) (hs : ∀ k, v.ownBlock = some k → S' k) : Row w S' e size v n xs := by
  refine ⟨h.1, ?_⟩
  rcases h.2 with hn | ⟨g, off, cap, cur, rfl, hS, hg, rest⟩
  · exact .inl hn
  · exact .inr ⟨g, off, cap, cur, rfl, hs g rfl, hg, rest⟩
/-- Less is owned, but all that it has. -/
theorem Bun.shrink {w : World} {S' : Nat → Prop} {p : Nat} {T : TypeId} {S : Nat → Prop} {C : Array Value} {V : List Value} {E : List (TypeId × Nat)} {X : List (Nat × List Value)} (h : Bun w p T S C V E X) (hp : S' p) (hv : ∀ (i : Nat) (v : Value) (k : Nat), V[i]? = some v → v.ownBlock = some k → S' k) (hs : ∀ k, S' k → S k) : Bun w p T S' C V E X :=
  ⟨hp, h.box, fun i v e x h1 h2 h3 => (h.row i v e x h1 h2 h3).reown (fun k hk => hv i v k h1 hk), h.off, h.apart, h.all, fun k hk => h.lt k (hs k hk)⟩
/-- What it owns now: what it owned, and new blocks. -/
def Grow (S : Nat → Prop) (w : World) (S' : Nat → Prop) : Prop := ∀ k, S' k → S k ∨ w.heap.size ≤ k
theorem Grow.refl (S : Nat → Prop) (w : World) : Grow S w S := fun _ h => .inl h
theorem Grow.trans {S S1 S2 : Nat → Prop} {w w1 : World} (h : Grow S w S1) (hs : w.heap.size ≤ w1.heap.size) (k : Grow S1 w1 S2) : Grow S w S2 := fun i hi => by
  rcases k i hi with h1 | h1
  · exact h i h1
  · exact .inr (by omega)
/-- Two steps' frames. -/
theorem Fr.grow {S S1 : Nat → Prop} {w w1 w2 : World} (h : Fr S w w1) (g : Grow S w S1) (k : Fr S1 w1 w2) : Fr S w w2 := h.trans k g
/-- What an append owns behind it. -/
theorem grow_put {S : Nat → Prop} {w w0 w1 : World} {v v' : Value} {e : TypeId} {size n : Nat} {xs : List Value} (hr : Row w1 (fun k => v.ownBlock = some k ∨ k = w0.heap.size) e size v' n xs) (hs : w.heap.size ≤ w0.heap.size) (hv : ∀ k, v.ownBlock = some k → S k) : Grow S w (fun k => S k ∨ v'.ownBlock = some k) := fun k hk => by
  rcases hk with hk | hk
  · exact .inl hk
  · rcases (hr.ownS hk).1 with h | h
    · exact .inl (hv k h)
    · exact .inr (by omega)
end Go.Proofs.YtkehpnobidendaaGreatDoor
