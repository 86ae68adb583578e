/- Communication in one goroutine: what a send into a channel with room, and a select of one receive with a default, make of the world, as steps of a function's code (WN, RS). -/
import Derived.Test.YtkehpnobidendaaGreatDoorM09
import Derived.Conc.LoneCalls
import Derived.Defers
namespace Go.Proofs.YtkehpnobidendaaGreatDoor
open Go.RowKit Go.Conc

section
variable {P : Program} {Q : Exit → Act → World → Prop} {a : Act} {w : World}
/-- A code's way, in a frame that is no early one. -/
def WN (P : Program) (c : Code) (Q : Exit → Act → World → Prop) (a : Act) (w : World) : Prop :=
  ∀ (b : Frame) (k : List Item) (cs : List Frame), b.kind ≠ .early → ∃ e a' w', Q e a' w' ∧ Arrives P (lone (b.at a (.code c :: k)) cs w) b k cs e a' w'
theorem WN.of_wp {c : Code} (h : c.wp P Q a w) : WN P c Q a w := fun b k cs _ => h b k cs
theorem WN.seq {x y : Code} (h : WN P x (Exit.then (WN P y Q) Q) a w) : WN P (.seq x y) Q a w := by
  intro b k cs hb
  obtain ⟨e, a1, w1, hq, ha⟩ := h b (.code y :: k) cs hb
  by_cases he : e = .normal
  · subst he
    obtain ⟨e2, a2, w2, hq2, ha2⟩ := hq b k cs hb
    exact ⟨e2, a2, w2, hq2, .of_steps (.head step_seq ha) ha2⟩
  · have hq' : Q e a1 w1 := by cases e <;> first | exact absurd rfl he | exact hq
    exact ⟨e, a1, w1, hq', .of_steps (.one step_seq) (.pass (x := .code y) rfl (fun _ _ => .inl he) ha)⟩
/-- A first part that communicates not, walked plainly. -/
theorem WN.seq_wp {x y : Code} (h : ∀ K : Act → World → Prop, (∀ a w, WN P y Q a w → K a w) → x.wp P (Exit.then K Q) a w) : WN P (.seq x y) Q a w :=
  WN.seq (WN.of_wp (h _ fun _ _ h => h))
theorem WN.cond {c : Operand} {x y : Code} {t : Bool} (hc : a.eval c = .bool t) (h : WN P (if t then x else y) Q a w) : WN P (.cond c x y) Q a w :=
  fun b k cs hb => let ⟨e, a', w', q, r⟩ := h b k cs hb; ⟨e, a', w', q, .of_steps (.one (step_cond hc)) r⟩
theorem WN.block {id : Nat} {c : Code} (h : WN P c (Exit.inBlock id Q) a w) : WN P (.block id c) Q a w := by
  intro b k cs hb
  obtain ⟨e, a1, w1, hq, ha⟩ := h b (.inBlock id :: k) cs hb
  cases e with
  | normal => exact ⟨.normal, a1, w1, hq, .head step_block (Steps.trans ha (.one step_inBlock))⟩
  | exit j =>
    by_cases hj : j = id
    · subst hj
      have hq' : Q .normal a1 w1 := by simpa [Exit.inBlock] using hq
      exact ⟨.normal, a1, w1, hq', .head step_block (ha k (by simp [exitTo]))⟩
    · have hq' : Q (.exit j) a1 w1 := by simpa [Exit.inBlock, hj] using hq
      exact ⟨.exit j, a1, w1, hq', fun k' hk => .head step_block (ha k' (by
        have : (id == j) = false := by simp; exact fun h => hj h.symm
        simp [exitTo, this, hk]))⟩
  | goto l => exact ⟨_, a1, w1, hq, fun k' hk => .head step_block (ha k' (by simp [gotoIn, hk]))⟩
  | ret => exact ⟨_, a1, w1, hq, .of_steps (.one step_block) ha⟩
  | panic ch => exact ⟨_, a1, w1, hq, .of_steps (.one step_block) ha⟩
  | outgrown => exact ⟨_, a1, w1, hq, .of_steps (b := b) (k := k) (cs := cs) (e := .outgrown) (.one step_block) ha⟩
theorem WN.loop {c : Code} (I : Nat → Act → World → Prop) (n : Nat) (h0 : I n a w) (round : ∀ n a w, I n a w → WN P c (Exit.then (fun a' w' => ∃ n', n' < n ∧ I n' a' w') Q) a w) : WN P (.loop c) Q a w := by
  intro b k cs hb
  have key : ∀ n a w, I n a w → ∃ e a' w', Q e a' w' ∧ Arrives P (lone (b.at a (.code c :: .inLoop c :: k)) cs w) b k cs e a' w' := by
    intro n
    induction n using Nat.strongRecOn with
    | _ n ih =>
      intro a w hI
      obtain ⟨e, a1, w1, hq, ha⟩ := round n a w hI b (.inLoop c :: k) cs hb
      by_cases he : e = .normal
      · subst he
        obtain ⟨n', hn, hI'⟩ := hq
        obtain ⟨e2, a2, w2, hq2, ha2⟩ := ih n' hn a1 w1 hI'
        exact ⟨e2, a2, w2, hq2, .of_steps (Steps.trans ha (.one step_inLoop)) ha2⟩
      · have hq' : Q e a1 w1 := by cases e <;> first | exact absurd rfl he | exact hq
        exact ⟨e, a1, w1, hq', .pass (x := .inLoop c) rfl (fun _ _ => .inl he) ha⟩
  obtain ⟨e, a', w', hq, ha⟩ := key n a w h0
  exact ⟨e, a', w', hq, .of_steps (.one step_loop) ha⟩
/-- From a body's way the call's contract. -/
theorem calls_of_wn {f : FuncId} {fn : Func} {c : Code} {args : Array Value} {w : World} {R : Ending → World → Prop} (hf : P.funcs[f]? = some fn) (hb : fn.body = some c)
    (h : WN P c (bodyPost P fn R) { tmps := args ++ Array.replicate (fn.ntmps - args.size) undef, defers := [] } w) : Calls P f args w R := by
  intro cs
  have henter : Frame.enter P f args .normal = ({ (default : Frame) with fn := f, kind := .normal } : Frame).at { tmps := args ++ Array.replicate (fn.ntmps - args.size) undef, defers := [] } [.code c] := by
    simp [Frame.enter, Frame.at, hf, hb]
  obtain ⟨e, a', w', hq, ha⟩ := h { (default : Frame) with fn := f, kind := .normal } [] cs (by simp)
  rw [← henter] at ha
  cases e with
  | normal => obtain ⟨hd, v, hr, hR⟩ := hq; exact ⟨.returned v, w', _, hR, Steps.trans ha (.one step_end), rfl, rfl, hd, rfl, fn, hf, hr⟩
  | ret => obtain ⟨hd, v, hr, hR⟩ := hq; obtain ⟨todo, hs⟩ := ha; exact ⟨.returned v, w', _, hR, hs, rfl, rfl, hd, rfl, fn, hf, hr⟩
  | panic chain => obtain ⟨hd, hR⟩ := hq; obtain ⟨todo, hs⟩ := ha; exact ⟨.panicked chain, w', _, hR, hs, rfl, rfl, hd, fn, hf⟩
  | exit id => exact hq.elim
  | goto l => exact hq.elim
  | outgrown => exact ⟨.outgrown, w', { (default : Frame) with fn := f }, hq, ha.resolve_left (by simp), rfl, trivial⟩
/-- The same of a deferred call. -/
theorem callsD_of_wn {f : FuncId} {fn : Func} {c : Code} {args : Array Value} {u : FrameMode} {w : World} {R : Ending → World → Prop} (hf : P.funcs[f]? = some fn) (hb : fn.body = some c)
    (h : WN P c (bodyPost P fn R) { tmps := args ++ Array.replicate (fn.ntmps - args.size) undef, defers := [] } w) : CallsD P f args u w fun e u' w' => u' = u ∧ R e w' := by
  intro c0 cs hu
  have henter : Frame.enter P f args .deferred = ({ (default : Frame) with fn := f, kind := .deferred } : Frame).at { tmps := args ++ Array.replicate (fn.ntmps - args.size) undef, defers := [] } [.code c] := by
    simp [Frame.enter, Frame.at, hf, hb]
  have hc : ({ c0 with mode := u } : Frame) = c0 := by subst hu; rfl
  obtain ⟨e, a', w', hq, ha⟩ := h { (default : Frame) with fn := f, kind := .deferred } [] (c0 :: cs) (by simp)
  rw [← henter] at ha
  cases e with
  | normal => obtain ⟨hd, v, hr, hR⟩ := hq; exact ⟨.returned v, u, w', _, ⟨rfl, hR⟩, (by rw [hc]; exact Steps.trans ha (.one step_end)), rfl, rfl, hd, fn, hf, hr⟩
  | ret => obtain ⟨hd, v, hr, hR⟩ := hq; obtain ⟨todo, hs⟩ := ha; exact ⟨.returned v, u, w', _, ⟨rfl, hR⟩, (by rw [hc]; exact hs), rfl, rfl, hd, fn, hf, hr⟩
  | panic chain => obtain ⟨hd, hR⟩ := hq; obtain ⟨todo, hs⟩ := ha; exact ⟨.panicked chain, u, w', _, ⟨rfl, hR⟩, (by rw [hc]; exact hs), rfl, rfl, hd, fn, hf⟩
  | exit id => exact hq.elim
  | goto l => exact hq.elim
  | outgrown => exact ⟨.outgrown, u, w', { (default : Frame) with kind := .deferred }, ⟨rfl, hq⟩, ha.resolve_left (by simp), rfl, trivial⟩
end

section
variable {P : Program} {ops : Array Oper} {Q : Act → World → Prop} {a : Act} {w w' : World} {i : Nat} {rest : List Nat} {o : Oper}
/-- The operations of a region that are left, one after another. -/
def RS (P : Program) (ops : Array Oper) (Q : Act → World → Prop) (l : List Nat) (a : Act) (w : World) : Prop :=
  ∀ (b : Frame) (k : List Item) (cs : List Frame), b.kind ≠ .early → ∃ a' w', Q a' w' ∧ Steps P (lone (b.at a (.inRegion ops l :: k)) cs w) (lone (b.at a' k) cs w')
theorem RS.nil (h : Q a w) : RS P ops Q [] a w := fun _ _ _ _ => ⟨a, w, h, .one step_region_end⟩
theorem RS.value {v : Value} {d : Option Tmp} (ho : ops[i]? = some o) (hd : o.dst = d) (hw : Region.wanted o (yielded ops a.tmps) = true) (hr : (execOp a.eval o).run P w = .ok (.value v) w') (h : RS P ops Q rest (a.put d v) w') : RS P ops Q (i :: rest) a w := by
  subst hd
  intro b k cs hb
  obtain ⟨a', w'', hq, hs⟩ := h b k cs hb
  refine ⟨a', w'', hq, .head (step_lone_go ?_) hs⟩
  have hfin : (b.at a (.inRegion ops (i :: rest) :: k)).finish v = b.at (a.put o.dst v) (.inRegion ops rest :: k) := by rw [Frame.finish_at, ho]; rfl
  rw [stepG_op (P := P) (b := b) (k := k) (cs := cs) (w := w) (rest := rest) ho hw, ← hfin]; simp [stepG.apply, hr]
theorem RS.call {f : FuncId} {args : Array Value} {d : Option Tmp} (ho : ops[i]? = some o) (hd : o.dst = d) (hw : Region.wanted o (yielded ops a.tmps) = true) (hr : (execOp a.eval o).run P w = .ok (.enter f args) w')
    (h : Calls P f args w' fun e w'' => ∃ v, e = .returned v ∧ RS P ops Q rest (a.put d v) w'') : RS P ops Q (i :: rest) a w := by
  subst hd
  intro b k cs hb
  obtain ⟨e, w'', fr, ⟨v, rfl, hR⟩, hs, _, hl⟩ := h (b.at a (.inRegion ops (i :: rest) :: k) :: cs)
  obtain ⟨a', w3, hq, hs3⟩ := hR b k cs hb
  have henter : step P (lone (b.at a (.inRegion ops (i :: rest) :: k)) cs w) = .next (lone (Frame.enter P f args .normal) (b.at a (.inRegion ops (i :: rest) :: k) :: cs) w') :=
    step_lone_go (by rw [stepG_op (P := P) (b := b) (k := k) (cs := cs) (w := w) (rest := rest) ho hw]; simp [stepG.apply, hr, Frame.at])
  have hfin : (b.at a (.inRegion ops (i :: rest) :: k)).finish v = b.at (a.put o.dst v) (.inRegion ops rest :: k) := by rw [Frame.finish_at, ho]; rfl
  refine ⟨a', w3, hq, .head henter (Steps.trans hs (.head ?_ hs3))⟩
  rw [← hfin]; exact step_leave_returned hl
theorem RS.skip {d : Option Tmp} (ho : ops[i]? = some o) (hd : o.dst = d) (hw : Region.wanted o (yielded ops a.tmps) = false) (h : RS P ops Q rest (a.put d undef) w) : RS P ops Q (i :: rest) a w := by
  subst hd
  intro b k cs hb
  obtain ⟨a', w', hq, hs⟩ := h b k cs hb
  have hs0 := step_op_skip (P := P) (b := b) (a := a) (k := k) (cs := cs) (w := w) (ops := ops) (i := i) (rest := rest) (by simp [ho, hw])
  simp only [ho, Option.bind_some] at hs0
  exact ⟨a', w', hq, .head hs0 hs⟩
theorem RS.send {c cap s r : Nat} {buf : Array Value} {v z : Value} {tm : Bool} {d : Option Tmp} (ho : ops[i]? = some o) (hd : o.dst = d) (hw : Region.wanted o (yielded ops a.tmps) = true) (hr : (execOp a.eval o).run P w = .ok (.comm #[scase c v z] true .send) w')
    (hc : w'.heap[c]? = some (.chan cap buf false s r tm)) (hroom : buf.size < cap) (h : RS P ops Q rest (a.put d undef) (w'.setChan c cap (buf.push v) false (s + 1) r tm)) : RS P ops Q (i :: rest) a w := by
  subst hd
  intro b k cs hb
  obtain ⟨a', w'', hq, hs⟩ := h b k cs hb
  have h1 := step_lone_send_room (stepG_comm (P := P) (main := true) (b := b) (k := k) (cs := cs) (w := w) (rest := rest) ho hw hb hr) hc hroom
  have hfin : (b.at a (.inRegion ops (i :: rest) :: k)).finish undef = b.at (a.put o.dst undef) (.inRegion ops rest :: k) := by rw [Frame.finish_at, ho]; rfl
  rw [hfin] at h1
  exact ⟨a', w'', hq, .head h1 hs⟩
theorem step_lone_select_buf {fr : Frame} {cs : List Frame} {w w1 : World} {es : Array Event} {c cap s r : Nat} {buf : Array Value} {z : Value} {tm closed : Bool} (h : stepG P true (G fr cs) w = .comm (G fr cs) #[rcase c z] false .select w1 es) (hc : w1.heap[c]? = some (.chan cap buf closed s r tm)) (hsome : 0 < buf.size) :
    step P (solo (G fr cs) w) = .next (solo (G (fr.finish (.tuple #[goInt 0, .bool true, buf.getD 0 undef])) cs) (w1.setChan c cap (buf.extract 1 buf.size) closed s (r + 1) tm)) := by
  have hp := partners_alone (c := c) true
  rw [step, stepT_solo rfl]
  simp [runT, solo, G, Array.swapAt!, Array.swapAt, h, GStep.es, communicate, ways, rcase, hc, hp, hsome, choose, Sem.run, Question.forced, bind, Sem.bind, pure, Goroutine.finishComm, commResult, World.setChan] at h ⊢
theorem RS.select_some {c cap s r : Nat} {buf : Array Value} {z : Value} {tm : Bool} {d : Option Tmp} (ho : ops[i]? = some o) (hd : o.dst = d) (hw : Region.wanted o (yielded ops a.tmps) = true) (hr : (execOp a.eval o).run P w = .ok (.comm #[rcase c z] false .select) w')
    (hc : w'.heap[c]? = some (.chan cap buf false s r tm)) (hsome : 0 < buf.size) (h : RS P ops Q rest (a.put d (.tuple #[goInt 0, .bool true, buf.getD 0 undef])) (w'.setChan c cap (buf.extract 1 buf.size) false s (r + 1) tm)) : RS P ops Q (i :: rest) a w := by
  subst hd
  intro b k cs hb
  obtain ⟨a', w'', hq, hs⟩ := h b k cs hb
  have h1 := step_lone_select_buf (stepG_comm (P := P) (main := true) (b := b) (k := k) (cs := cs) (w := w) (rest := rest) ho hw hb hr) hc hsome
  have hfin : ∀ v, (b.at a (.inRegion ops (i :: rest) :: k)).finish v = b.at (a.put o.dst v) (.inRegion ops rest :: k) := fun v => by rw [Frame.finish_at, ho]; rfl
  rw [hfin] at h1
  exact ⟨a', w'', hq, .head h1 hs⟩
theorem RS.select_none {c cap s r : Nat} {z : Value} {tm : Bool} {d : Option Tmp} (ho : ops[i]? = some o) (hd : o.dst = d) (hw : Region.wanted o (yielded ops a.tmps) = true) (hr : (execOp a.eval o).run P w = .ok (.comm #[rcase c z] false .select) w')
    (hc : w'.heap[c]? = some (.chan cap #[] false s r tm)) (h : RS P ops Q rest (a.put d (.tuple #[goInt (-1), .bool false, z])) w') : RS P ops Q (i :: rest) a w := by
  subst hd
  intro b k cs hb
  obtain ⟨a', w'', hq, hs⟩ := h b k cs hb
  have h1 := step_lone_select_default (stepG_comm (P := P) (main := true) (b := b) (k := k) (cs := cs) (w := w) (rest := rest) ho hw hb hr) hc
  have hfin : ∀ v, (b.at a (.inRegion ops (i :: rest) :: k)).finish v = b.at (a.put o.dst v) (.inRegion ops rest :: k) := fun v => by rw [Frame.finish_at, ho]; rfl
  rw [hfin] at h1
  exact ⟨a', w'', hq, .head h1 hs⟩
theorem WN.region {id : Nat} {Q : Exit → Act → World → Prop} (h : RS P ops (Q .normal) (List.range ops.size) a w) : WN P (.region id ops false) Q a w := fun b k cs hb =>
  let ⟨a', w', q, s⟩ := h b k cs hb; ⟨.normal, a', w', q, .head step_region s⟩
theorem WN.region_draw {id : Nat} {Q : Exit → Act → World → Prop} (h : ∀ t, RS P ops (Q .normal) (Region.schedule (P.follows .mixedOrders) ops t) a { w with drawn := w.drawn + 1 }) : WN P (.region id ops true) Q a w := fun b k cs hb =>
  let ⟨a', w', q, s⟩ := h _ b k cs hb; ⟨.normal, a', w', q, .head step_region_draw s⟩
end
/-- The frame of a send, or a receive, at a channel. -/
theorem Fr.setChan {S : Nat → Prop} (w : World) {c : Nat} (hs : S c) (cap : Nat) (buf : Array Value) (cl : Bool) (s r : Nat) (tm : Bool) : Fr S w (w.setChan c cap buf cl s r tm) :=
  ⟨rfl, rfl, rfl, by simp [World.setChan], fun k _ hn => by simp only [World.setChan]; exact Array.getElem?_setIfInBounds_ne (fun e => hn (by rw [← e]; exact hs))⟩
end Go.Proofs.YtkehpnobidendaaGreatDoor
