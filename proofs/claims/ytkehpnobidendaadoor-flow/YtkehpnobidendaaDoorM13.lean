/- Lists that came out and are written over by their owner: a slice all of whose elements are one mark (Marked), and what its owner's append makes of the slices that were kept of it. -/
import Derived.Test.YtkehpnobidendaaDoorM11
namespace Go.Proofs.YtkehpnobidendaaDoor
open Go.RowKit

/-- What append makes of a slice of our own: the row is longer, in its own block or in a new one; only its own block turns. -/
theorem run_append_two (P : Program) (w : World) (S : Nat → Prop) (t ty e : TypeId) (i : TypeInfo) (z : Value) (size bytes : Nat) (ht : P.underlying t = some (.slice e)) (hi : P.info? e = some i) (hz : i.zero = some z)
    (hsize : i.size = size) (hby : i.bytes = bytes) (hzs : z.cells.size = size)
    (v : Value) (n : Nat) (xs : List Value) (hown : Row w S e size v n xs)
    (a : Addr) (m c : Nat) (news : List Value) (hl : news.length = m * size) (hnews : ∀ j u, news[j]? = some u → w.cell? (a.add j) = some u) (h1 : ∀ u ∈ news, u.oneCell' = true)
    (hm0 : 0 < m) (h63 : n + m ≤ maxLen) (hbytes : (n + m) * bytes ≤ 140737488355328) :
    ∃ v' w', (Builtin.append_ #[t, t] ty #[v, .slice (some a) m c]).run P w = .ok v' w' ∧ Row w' (fun k => v.ownBlock = some k ∨ k = w.heap.size) e size v' (n + m) (xs ++ news) ∧ Fr (fun k => v.ownBlock = some k) w w' ∧ ((∃ a cap, v = .slice a n cap ∧ v' = .slice a (n + m) cap) ∨ (Below w.heap.size w w' ∧ v'.ownBlock = some w.heap.size)) := by
  subst hsize
  subst hby
  have hsmall : n + m ≤ 9223372036854775807 := by simp only [maxLen] at h63; omega
  have hlen : (xs ++ news).length = (n + m) * i.size := by rw [List.length_append, hown.1, hl, Nat.add_mul]
  have grown : ∀ (old : Nat), old < n + m → ∀ (row : Option Nat),
      Row (w.drew.alloc (.cells (xs.toArray ++ news.toArray ++ Builtin.zeroCells z.cells (grownCap w (n + m) old e - (n + m))) e)) (fun k => row = some k ∨ k = w.heap.size) e i.size
        (.slice (some ⟨w.heap.size, 0, none⟩) (n + m) (grownCap w (n + m) old e)) (n + m) (xs ++ news) ∧
      Fr (fun k => row = some k) w (w.drew.alloc (.cells (xs.toArray ++ news.toArray ++ Builtin.zeroCells z.cells (grownCap w (n + m) old e - (n + m))) e)) ∧ Below w.heap.size w (w.drew.alloc (.cells (xs.toArray ++ news.toArray ++ Builtin.zeroCells z.cells (grownCap w (n + m) old e - (n + m))) e)) := by
    intro old ho row
    have hge := grownCap_ge w (n + m) old e
    have hcm : grownCap w (n + m) old e ≤ maxLen := grownCap_le_maxLen w (n + m) old e h63
    refine ⟨⟨hlen, .inr ⟨w.heap.size, 0, _, _, rfl, .inr rfl, heap_alloc_new w.drew _, hge, hcm, ?_, ?_⟩⟩, ⟨rfl, rfl, rfl, by simp, fun k hk _ => Below.heap_alloc w.drew _ k hk⟩, ⟨rfl, rfl, rfl, by simp, fun k hk => Below.heap_alloc w.drew _ k hk⟩⟩
    · simp only [Array.size_append, List.size_toArray, size_zeroCells, hzs, hown.1, hl, ← Nat.add_mul, Nat.zero_add]
      exact Nat.mul_le_mul_right _ (by omega)
    · simp only [Array.toList_append, List.append_assoc, List.drop_zero]
      rw [← List.append_assoc, ← hlen]
      exact List.take_left
  rcases hown.2 with ⟨rfl, rfl⟩ | ⟨g, off, cap, cur, rfl, hS, hg, hnc, hcm, hcs, htake⟩
  · have hx : xs = [] := List.eq_nil_of_length_eq_zero (by simpa using hown.1)
    subst hx
    have hr := run_append_nil (P := P) w t ty e i z ht hi hz a m c news hl hnews (by omega) (by omega) (by have hb := hbytes; simp only [Nat.zero_add] at hb; omega)
    have hgr := grown 0 (by omega) (Value.ownBlock (.slice none 0 0))
    simp only [Nat.zero_add, List.nil_append, Array.empty_append] at hgr ⊢
    exact ⟨_, _, hr, hgr.1, hgr.2.1, .inr ⟨hgr.2.2, rfl⟩⟩
  · by_cases hroom : n + m ≤ cap
    · have hmul : (n + m) * i.size ≤ cap * i.size := Nat.mul_le_mul_right _ hroom
      have hfit : off + n * i.size + news.length ≤ cur.size := by rw [hl]; rw [Nat.add_mul] at hmul; omega
      have hr := run_room P w t ty e i ht hi g off n cap cur hg a m c news hl hnews h1 hroom hfit
      refine ⟨_, _, hr, ⟨hlen, .inr ⟨g, off, cap, _, rfl, .inl rfl, setRow_heap w g cur _ e _ hg, hroom, hcm, ?_, ?_⟩⟩, ⟨rfl, rfl, rfl, by simp, fun k _ hk => setRow_other w g k _ (fun e => hk (by simp [Value.ownBlock, e]))⟩, .inl ⟨_, _, rfl, rfl⟩⟩
      · simp only [List.size_toArray, List.length_append, List.length_take, List.length_drop, Array.length_toList]
        omega
      · simp only
        rw [List.append_assoc, List.drop_append_of_le_length (by simp; omega)]
        have h2 : (cur.toList.take (off + n * i.size)).drop off = xs := by
          rw [List.drop_take, ← htake]; congr 1; omega
        rw [h2, ← List.append_assoc, ← hlen]
        exact List.take_left
    · have holds : ∀ j u, xs[j]? = some u → w.cell? ((⟨g, off, none⟩ : Addr).add j) = some u := fun j u hj => by
        rw [Addr.add_lit, hown.cellAt j (by rw [← hown.1]; exact (List.getElem?_eq_some_iff.1 hj).1)]; exact hj
      have hr := run_append_grow (P := P) w t ty e i z ht hi hz ⟨g, off, none⟩ n cap xs hown.1 holds a m c news hl hnews (by omega) (by omega) (growslice_fits (by omega) hbytes)
      have hgr := grown cap (by omega) (Value.ownBlock (.slice (some ⟨g, off, none⟩) n cap))
      exact ⟨_, _, hr, hgr.1, hgr.2.1, .inr ⟨hgr.2.2, rfl⟩⟩

/-- The same, at the operation. -/
theorem wpList_append_two {P : Program} {w : World} {ops : Array Oper} {rest : List Oper} {o : Oper} {a : Act} {Q : Exit → Act → World → Prop} (hgd : o.guard = none) (s x : Operand) (t : TypeId)
    (ho : o.op = .call { callee := .builtin .append, args := #[s, x], argTypes := #[t, t] })
    (S : Nat → Prop) (e : TypeId) (z : Value) (size bytes : Nat) (ht : P.underlying t = some (.slice e)) (hi : (P.info? e).map (fun i => (i.zero, i.size, i.bytes)) = some (some z, size, bytes)) (hzs : z.cells.size = size)
    (v : Value) (n : Nat) (xs : List Value) (hs : a.eval s = v) (hown : Row w S e size v n xs)
    (ad : Addr) (m c : Nat) (news : List Value) (hx : a.eval x = .slice (some ad) m c) (hl : news.length = m * size) (hnews : ∀ j u, news[j]? = some u → w.cell? (ad.add j) = some u) (h1 : ∀ u ∈ news, u.oneCell' = true)
    (hm0 : 0 < m) (h63 : n + m ≤ maxLen) (hbytes : (n + m) * bytes ≤ 140737488355328)
    (h : ∀ v' w', Row w' (fun k => v.ownBlock = some k ∨ k = w.heap.size) e size v' (n + m) (xs ++ news) → Fr (fun k => v.ownBlock = some k) w w' → ((∃ a cap, v = .slice a n cap ∧ v' = .slice a (n + m) cap) ∨ (Below w.heap.size w w' ∧ v'.ownBlock = some w.heap.size)) → wpList P ops Q rest (a.put o.dst v') w') : wpList P ops Q (o :: rest) a w := by
  refine wpList_plain hgd fun K hK => ?_
  obtain ⟨i0, hi0, hz0, hz1, hz2⟩ := info_parts hi
  obtain ⟨v', w', hr, h2, h3, h4⟩ := run_append_two P w S t o.type e i0 z size bytes ht hi0 hz0 hz1 hz2 hzs v n xs hown ad m c news hl hnews h1 hm0 h63 hbytes
  unfold Oper.wp execOp
  simp only [ho, resolve, invoke, builtin, Sem.run_bind, Sem.run_pure, Result.andThen_ok, List.map_toArray, List.map_cons, List.map_nil, hs, hx, hr]
  exact hK _ _ (h v' w' h2 h3 h4)
/-- n times the same cells. -/
def reps (n : Nat) (C : List Value) : List Value := (List.replicate n C).flatten
theorem reps_len (n : Nat) (C : List Value) : (reps n C).length = n * C.length := by simp [reps]
theorem reps_succ (n : Nat) (C : List Value) : reps (n + 1) C = reps n C ++ C := by
  unfold reps; rw [List.replicate_succ', List.flatten_append]; simp
theorem reps_take (C : List Value) : ∀ (m j : Nat), j ≤ m → (reps m C).take (j * C.length) = reps j C := by
  intro m j h
  have e : m = j + (m - j) := by omega
  rw [e]
  unfold reps
  rw [← List.replicate_append_replicate, List.flatten_append]
  have : (List.replicate j C).flatten.length = j * C.length := by simp
  rw [← this, List.take_left]
/-- A row hangs on its own block alone. -/
theorem Row.move {w w' : World} {S S' : Nat → Prop} {e : TypeId} {size : Nat} {v : Value} {n : Nat} {xs : List Value} (h : Row w S e size v n xs) (hb : ∀ k, v.ownBlock = some k → w'.heap[k]? = w.heap[k]? ∧ S' k) : Row w' S' e size v n xs := by
  refine ⟨h.1, ?_⟩
  rcases h.2 with hn | ⟨g, off, cap, cur, rfl, hS, hg, rest⟩
  · exact .inl hn
  · exact .inr ⟨g, off, cap, cur, rfl, (hb g rfl).2, (hb g rfl).1.trans hg, rest⟩
/-- A shorter slice at the same place. -/
theorem Row.trunc {w : World} {S : Nat → Prop} {e : TypeId} {size : Nat} {a : Option Addr} {n cap : Nat} {xs : List Value} (h : Row w S e size (.slice a n cap) n xs) (j : Nat) (hj : j ≤ n) (ha : a ≠ none) : Row w S e size (.slice a j cap) j (xs.take (j * size)) := by
  rcases h.val with ⟨h0, _⟩ | ⟨g, off, cap', cur, hv, hS, hg, hnc, hm, hs, hx⟩
  · cases h0; exact absurd rfl ha
  · cases hv
    have hle : j * size ≤ n * size := Nat.mul_le_mul_right _ hj
    refine ⟨by rw [List.length_take, h.len]; omega, .inr ⟨g, off, cap, cur, rfl, hS, hg, by omega, hm, hs, ?_⟩⟩
    rw [← hx, List.take_take]; congr 1; omega
/-- A slice that was kept (r) of a list that is written on (cur): all of it is the mark; where it lies in cur's block it is a beginning of cur. -/
def Marked (w : World) (T : Nat → Prop) (e : TypeId) (C : List Value) (r cur : Value) : Prop :=
  ∃ j, Row w T e C.length r j (reps j C) ∧ ∀ k, r.ownBlock = some k → cur.ownBlock = some k → ∃ a cap m, r = .slice a j cap ∧ cur = .slice a m cap ∧ j ≤ m
theorem Marked.self {w : World} {T : Nat → Prop} {e : TypeId} {C : List Value} {cur : Value} {n : Nat} (h : Row w T e C.length cur n (reps n C)) : Marked w T e C cur cur := by
  obtain ⟨a, cap, rfl⟩ := h.isSlice
  exact ⟨n, h, fun k _ _ => ⟨a, cap, n, rfl, rfl, Nat.le_refl _⟩⟩
theorem Marked.same {w w' : World} {T T' : Nat → Prop} {e : TypeId} {C : List Value} {r cur : Value} (h : Marked w T e C r cur) (hb : ∀ k, T k → k < w.heap.size → w'.heap[k]? = w.heap[k]? ∧ T' k) : Marked w' T' e C r cur := by
  obtain ⟨j, h1, h2⟩ := h
  exact ⟨j, h1.same hb, h2⟩
/-- The owner appends the mark once more. -/
theorem Marked.step {w w' : World} {T : Nat → Prop} {e : TypeId} {C : List Value} {r cur cur' : Value} {n : Nat} (h : Marked w T e C r cur) (hc : Row w T e C.length cur n (reps n C))
    (hr : Row w' (fun k => cur.ownBlock = some k ∨ k = w.heap.size) e C.length cur' (n + 1) (reps n C ++ C)) (hf : Fr (fun k => cur.ownBlock = some k) w w') (h2 : (∃ a cap, cur = .slice a n cap ∧ cur' = .slice a (n + 1) cap) ∨ (Below w.heap.size w w' ∧ cur'.ownBlock = some w.heap.size)) :
    Marked w' T e C r cur' := by
  obtain ⟨j, h1, hk⟩ := h
  rcases h2 with ⟨a, cap, rfl, rfl⟩ | ⟨hb, ho⟩
  · by_cases hsame : ∃ k, r.ownBlock = some k ∧ (Value.slice a n cap).ownBlock = some k
    · obtain ⟨k, hk1, hk2⟩ := hsame
      obtain ⟨a', cap', m, rfl, hcur, hjm⟩ := hk k hk1 hk2
      cases hcur
      have ha : a ≠ none := fun e => by rw [e] at hk1; cases hk1
      refine ⟨j, ?_, fun k' _ _ => ⟨a, cap, n + 1, rfl, rfl, by omega⟩⟩
      have ht := hr.trunc j (by omega) ha
      rw [← reps_succ, reps_take C (n + 1) j (by omega)] at ht
      exact ht.reown (fun k' hk' => (h1.ownS hk').1)
    · refine ⟨j, h1.move (fun k hk' => ⟨hf.block k (h1.ownS hk').2 (fun h => hsame ⟨k, hk', h⟩), (h1.ownS hk').1⟩), fun k hk1 hk2 => absurd ⟨k, hk1, by cases a <;> exact hk2⟩ hsame⟩
  · refine ⟨j, h1.move (fun k hk' => ⟨hb.block k (h1.ownS hk').2, (h1.ownS hk').1⟩), fun k hk1 hk2 => ?_⟩
    rw [ho] at hk2
    cases hk2
    have := (h1.ownS hk1).2
    omega
theorem Row.store1 {w : World} {R : Nat → Prop} {e : TypeId} {g off n cap : Nat} {xs : List Value} (h : Row w R e 1 (.slice (some ⟨g, off, none⟩) n cap) n xs) (k : Nat) (u : Value) : Row (w.setCell ⟨g, off + k, none⟩ u) R e 1 (.slice (some ⟨g, off, none⟩) n cap) n (xs.set k u) := by
  have hl := h.len
  rcases h.val with ⟨h0, _⟩ | ⟨g', off', cap', cur, hv, hS, hg, hnc, hm, hs, hx⟩
  · cases h0
  · cases hv
    refine ⟨by simpa using hl, .inr ⟨g, off, cap, _, rfl, hS, heap_store hg u, hnc, hm, by simpa using hs, ?_⟩⟩
    rw [← hx, Array.toList_setIfInBounds, List.drop_set, if_neg (by omega), List.take_set]
    congr 1; omega
end Go.Proofs.YtkehpnobidendaaDoor
