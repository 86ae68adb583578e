/- Maps of the program: a block that is a map keyed by integers, told by what it has at each key (IMap): made, looked into, written, struck from. -/
import Derived.Test.YtkehpnobidendaaGreatDoorM09
import Derived.Maps.Own
import Derived.Maps.OwnOps
import Derived.Maps.OwnSet
import Derived.Maps.RangeWalk
import Derived.Lib.SlMapFilter
namespace Go.Proofs.YtkehpnobidendaaGreatDoor
open Go.RowKit Go.Maps

open Classical in
/-- How an element of a shape reads: as itself. -/
noncomputable def RV (sh : Value → Prop) (v : Value) : Option (DataW Value × List MemPlace) := if sh v then some (.held v, []) else none
theorem RV_inv {sh : Value → Prop} {v : Value} {y : DataW Value × List MemPlace} (h : RV sh v = some y) : sh v ∧ y = (.held v, []) := by
  unfold RV at h
  split at h
  · rename_i hs; cases h; exact ⟨hs, rfl⟩
  · cases h
theorem RV_of {sh : Value → Prop} {v : Value} (h : sh v) : RV sh v = some (.held v, []) := if_pos h
/-- What the datum has at a key. -/
def tell (f : Option Value) (z : DataW Value) : DataW Value := match f with | some v => .held v | none => z
structure Tells (q : IntKind) (D : DataW Value) (f : Int → Option Value) : Prop where
  at_ : ∀ x, (Lit.int q x).wf = true → ∀ z, D.atKey (.int q x) z = tell (f x) z
theorem Tells.has {q : IntKind} {D : DataW Value} {f : Int → Option Value} (h : Tells q D f) (x : Int) (hx : (Lit.int q x).wf = true) : Maps.has D (.int q x) = (f x).isSome := by
  cases hf : f x with
  | none => exact has_false_of_atKey (fun z => by rw [h.at_ x hx, hf]; rfl)
  | some v => exact has_true_of_atKey (y := .held v) (fun z => by rw [h.at_ x hx, hf]; rfl)
/-- Block b is a map of at most n entries, which has f. -/
structure IMap (P : Program) (k : TypeId) (q : IntKind) (sh : Value → Prop) (w : World) (b n : Nat) (f : Int → Option Value) : Prop where
  ex : ∃ D, w.ownsMap P k (RV sh) b n D ∧ Tells q D f

section
variable {P : Program} {k t e : TypeId} {q : IntKind} {sh : Value → Prop} {w w' : World} {b n : Nat} {f : Int → Option Value}
theorem IMap.lt (h : IMap P k q sh w b n f) : b < w.heap.size := let ⟨_, h, _⟩ := h.ex; h.lt
theorem IMap.made (w : World) : IMap P k q sh (w.alloc (.map #[] 0)) w.heap.size 0 (fun _ => none) :=
  ⟨_, World.ownsMap_made w P k (RV sh), ⟨fun _ _ _ => rfl⟩⟩
theorem IMap.same (h : IMap P k q sh w b n f) (hb : w'.heap[b]? = w.heap[b]?) : IMap P k q sh w' b n f := by
  obtain ⟨D, ⟨es, clock, h1, h2⟩, h3⟩ := h
  exact ⟨D, ⟨es, clock, hb.trans h1, h2⟩, h3⟩
theorem IMap.mono (h : IMap P k q sh w b n f) {n' : Nat} (hn : n ≤ n') : IMap P k q sh w b n' f := by
  obtain ⟨D, h1, h2⟩ := h
  exact ⟨D, h1.mono hn, h2⟩
theorem IMap.fun (h : IMap P k q sh w b n f) {g : Int → Option Value} (hg : ∀ x, (Lit.int q x).wf = true → g x = f x) : IMap P k q sh w b n g := by
  obtain ⟨D, h1, h2⟩ := h
  exact ⟨D, h1, ⟨fun x hx z => by rw [hg x hx]; exact h2.at_ x hx z⟩⟩
theorem IMap.below (h : IMap P k q sh w b n f) (hf : Below w.heap.size w w') : IMap P k q sh w' b n f := h.same (hf.block b h.lt)
theorem IMap.fr {Z : Nat → Prop} (h : IMap P k q sh w b n f) (hf : Fr Z w w') (hz : ¬ Z b) : IMap P k q sh w' b n f := h.same (hf.block b h.lt hz)
theorem IMap.look (h : IMap P k q sh w b n f) (hk : P.underlying k = some (.int q)) (ht : P.underlying t = some (.map k e)) {z : Value} (hz : (zeroValue e).run P w = .ok z w) (hs : sh z) (x : Int) (hx : (Lit.int q x).wf = true) :
    (Instr.lookup t (.map (some b)) (.int q x) false).run P w = .ok ((f x).getD z) w := by
  obtain ⟨D, h1, h2⟩ := h
  obtain ⟨v, ps, hr, hv⟩ := h1.lookup (int_keyed hk) ht hz (zd := .held z) (zp := []) (RV_of hs) (keyOf_int_mk hk hx)
  have := (RV_inv hv).2
  rw [h2.at_ x hx] at this
  cases hf : f x <;> rw [hf] at this <;> simp only [tell, Prod.mk.injEq, DataW.held.injEq] at this <;> rw [hr, this.1.symm] <;> rfl
theorem IMap.look_ok (h : IMap P k q sh w b n f) (hk : P.underlying k = some (.int q)) (ht : P.underlying t = some (.map k e)) {z : Value} (hz : (zeroValue e).run P w = .ok z w) (hs : sh z) (x : Int) (hx : (Lit.int q x).wf = true) :
    (Instr.lookup t (.map (some b)) (.int q x) true).run P w = .ok (.tuple #[(f x).getD z, .bool (f x).isSome]) w := by
  obtain ⟨D, h1, h2⟩ := h
  obtain ⟨v, ps, hr, hv⟩ := h1.look_ok (int_keyed hk) ht hz (zd := .held z) (zp := []) (RV_of hs) (keyOf_int_mk hk hx)
  have := (RV_inv hv).2
  rw [h2.at_ x hx] at this
  rw [h2.has x hx] at hr
  cases hf : f x <;> rw [hf] at this hr <;> simp only [tell, Prod.mk.injEq, DataW.held.injEq] at this <;> rw [hr, this.1.symm] <;> rfl
/-- What a store makes of it. -/
def putAt (f : Int → Option Value) (x : Int) (v : Value) : Int → Option Value := fun y => if y = x then some v else f y
theorem IMap.store (h : IMap P k q sh w b n f) (hk : P.underlying k = some (.int q)) (ht : P.underlying t = some (.map k e)) (hn : n < maxLen) (x : Int) (hx : (Lit.int q x).wf = true) (v : Value) (hs : sh v) :
    ∃ w', (Instr.mapUpdate t (.map (some b)) (.int q x) v).run P w = .ok () w' ∧ IMap P k q sh w' b (n + 1) (putAt f x v) ∧ Fr (fun k => k = b) w w' := by
  obtain ⟨D, h1, h2⟩ := h
  obtain ⟨w', hr, h3, h4⟩ := h1.update (int_keyed hk) ht hn (keyOf_int_mk hk hx) (val := v) (d := .held v) (ps := []) (RV_of hs)
  refine ⟨w', hr, ⟨_, h3, ⟨fun y hy z => ?_⟩⟩, Fr.grown h4 (fun j hj => by cases hj; rfl)⟩
  by_cases hxy : y = x
  · subst hxy
    rw [atKey_put_same h1.isMap ((int_keyed hk).key (keyOf_int_mk hk hx))]
    simp [putAt, tell]
  · rw [atKey_put_other (fun e => hxy (by cases e; rfl)), h2.at_ y hy]
    simp [putAt, hxy]
/-- At the operation, for the walk. -/
theorem wpList_lookV {ops : Array Oper} {rest : List Oper} {o : Oper} {a : Act} {Q : Exit → Act → World → Prop} (hg : o.guard = none) (m x : Operand) (hop : o.op = Op.lookup t m x false)
    (hm : a.eval m = .map (some b)) (h : IMap P k q sh w b n f) (hk : P.underlying k = some (.int q)) (ht : P.underlying t = some (.map k e)) (z : Value) (hz : (zeroValue e).run P w = .ok z w) (hs : sh z) (y : Int) (hy : a.eval x = .int q y) (hw : (Lit.int q y).wf = true) (v : Value) (hv : (f y).getD z = v)
    (hK : wpList P ops Q rest (a.put o.dst v) w) : wpList P ops Q (o :: rest) a w := by
  refine wpList_plain hg fun K' hK' => ?_
  unfold Oper.wp
  have h1 := h.look hk ht hz hs y hw
  rw [hv] at h1
  simp [execOp, hop, hm, hy, h1, Result.andThen]
  exact hK' _ _ hK
theorem wpList_lookB {ops : Array Oper} {rest : List Oper} {o : Oper} {a : Act} {Q : Exit → Act → World → Prop} (hg : o.guard = none) (m x : Operand) (hop : o.op = Op.lookup t m x true)
    (hm : a.eval m = .map (some b)) (h : IMap P k q sh w b n f) (hk : P.underlying k = some (.int q)) (ht : P.underlying t = some (.map k e)) (z : Value) (hz : (zeroValue e).run P w = .ok z w) (hs : sh z) (y : Int) (hy : a.eval x = .int q y) (hw : (Lit.int q y).wf = true) (v : Value) (c : Bool) (hv : (f y).getD z = v) (hc : (f y).isSome = c)
    (hK : wpList P ops Q rest (a.put o.dst (.tuple #[v, .bool c])) w) : wpList P ops Q (o :: rest) a w := by
  refine wpList_plain hg fun K' hK' => ?_
  unfold Oper.wp
  have h1 := h.look_ok hk ht hz hs y hw
  rw [hv, hc] at h1
  simp [execOp, hop, hm, hy, h1, Result.andThen]
  exact hK' _ _ hK
theorem wpList_store {ops : Array Oper} {rest : List Oper} {o : Oper} {a : Act} {Q : Exit → Act → World → Prop} (hg : o.guard = none) (m x v : Operand) (hop : o.op = Op.mapUpdate t m x v)
    (hm : a.eval m = .map (some b)) (h : IMap P k q sh w b n f) (hk : P.underlying k = some (.int q)) (ht : P.underlying t = some (.map k e)) (hn : n < maxLen) (y : Int) (hy : a.eval x = .int q y) (hw : (Lit.int q y).wf = true) (val : Value) (hv : a.eval v = val) (hs : sh val)
    (hK : ∀ w', IMap P k q sh w' b (n + 1) (putAt f y val) → Fr (fun k => k = b) w w' → wpList P ops Q rest (a.put o.dst undef) w') : wpList P ops Q (o :: rest) a w := by
  refine wpList_plain hg fun K' hK' => ?_
  obtain ⟨w', hr, h1, h2⟩ := h.store hk ht hn y hw val hs
  unfold Oper.wp
  simp [execOp, hop, hm, hy, hv, hr, Result.andThen]
  exact hK' _ _ (hK w' h1 h2)
theorem step_store {ops : Array Oper} {o : Oper} {a : Act} {K : Act → World → Prop} {Q : Exit → Act → World → Prop} {E : Prop} (hg : o.guard = none) (m x v : Operand) (hop : o.op = Op.mapUpdate t m x v)
    (hm : a.eval m = .map (some b)) (h : IMap P k q sh w b n f) (hk : P.underlying k = some (.int q)) (ht : P.underlying t = some (.map k e)) (hn : n < maxLen) (y : Int) (hy : a.eval x = .int q y) (hw : (Lit.int q y).wf = true) (val : Value) (hv : a.eval v = val) (hs : sh val)
    (hK : ∀ w', IMap P k q sh w' b (n + 1) (putAt f y val) → Fr (fun k => k = b) w w' → K (a.put o.dst undef) w') :
    if Region.wanted o (yielded ops a.tmps) = true then Oper.wp P o a w K Q else E := by
  have hw' : Region.wanted o (yielded ops a.tmps) = true := by simp [Region.wanted, hg]
  rw [if_pos hw']
  obtain ⟨w', hr, h1, h2⟩ := h.store hk ht hn y hw val hs
  unfold Oper.wp
  simp [execOp, hop, hm, hy, hv, hr, Result.andThen]
  exact hK w' h1 h2
/-- What is struck by a predicate on keys. -/
theorem Tells.filter {D : DataW Value} {f : Int → Option Value} (h : Tells q D f) (p : Int → Bool) (pd : Lit → DataW Value → Bool) (hpd : ∀ x d, pd (.int q x) d = p x) : Tells q (Lib.deleteFuncD pd D) (fun x => if p x then none else f x) := by
  refine ⟨fun x hx z => ?_⟩
  have h1 := h.at_ x hx
  cases D with
  | map es =>
    have keep : ∀ (l : List (Lit × DataW Value)), (l.filter fun y => !pd y.1 y.2).find? (fun y => y.1.sameKey (.int q x)) = if p x then none else l.find? (fun y => y.1.sameKey (.int q x)) := by
      intro l
      induction l with
      | nil => simp
      | cons y r ih =>
        cases hs : y.1.sameKey (.int q x) with
        | true =>
          have e := WideAt.sameKey_eq hs
          have hp : pd y.1 y.2 = p x := by rw [e]; exact hpd x _
          cases hpx : p x with
          | true => rw [List.filter_cons_of_neg (by simp [hp, hpx]), ih, hpx]; rfl
          | false => rw [List.filter_cons_of_pos (by simp [hp, hpx])]; simp [hs]
        | false =>
          by_cases hk : pd y.1 y.2 = true
          · rw [List.filter_cons_of_neg (by simp [hk]), ih]; simp [hs]
          · rw [List.filter_cons_of_pos (by simp [hk])]; simp only [List.find?_cons, hs]; exact ih
    have h2 := h1 z
    unfold DataW.atKey at h2 ⊢
    simp only [Lib.deleteFuncD] at h2 ⊢
    rw [keep]
    cases hpx : p x with
    | true => simp [tell]
    | false => simpa using h2
  | _ =>
    have h2 := h1 z
    simp only [DataW.atKey, Lib.deleteFuncD] at h2 ⊢
    cases hpx : p x <;> simp [tell] at h2 ⊢
    exact h2
end
end Go.Proofs.YtkehpnobidendaaGreatDoor
