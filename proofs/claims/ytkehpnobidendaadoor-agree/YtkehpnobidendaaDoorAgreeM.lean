/- parleykeep's Agree: true, whatever the script, the liar and the patience, and the script as it was; the card. Three members and a liar, who says whatever it likes in its own name: the logs of the three are beginnings of one another, nothing that they have goes back, nobody votes twice in a view. No condition beyond the card's own: the tables hold what the library lays into them. -/
import Derived.Test.YtkehpnobidendaaDoorCards
import Derived.Test.YtkehpnobidendaaDoorTie
import Derived.Test.YtkehpnobidendaaDoorM50
import Derived.WalkKit
import Derived.ProofKit
import Derived.OpenShut
import Derived.Deep.DeepHandedRow
import Derived.Deep.Slices
import Derived.Lib.LaidTab
namespace Go.Proofs.YtkehpnobidendaaDoor
open Go.ChangeShapes Go.WideShapes Go.ChangeAt Go.RowKit

theorem own : ownKnob Tryd.prog.godebug = none := by kernel_rfl
theorem laidOut : laidOutB Tryd.prog = true := by kernel_rfl
theorem gTab : Tryd.prog.globalNamed "internal/strconv.uint64pow10" = some 0 := by kernel_rfl
theorem gTabType : (Tryd.prog.globals[0]?).map (·.type) = some 134 := by kernel_rfl
theorem cellsTab : Tryd.prog.cellsOf 134 = 20 := by kernel_rfl
theorem cellsU64 : Tryd.prog.cellsOf 22 = 1 := by kernel_rfl
theorem cellsInt : Tryd.prog.cellsOf 3 = 1 := by kernel_rfl
theorem cellsStep : Tryd.prog.cellsOf 66 = 3 := by kernel_rfl
theorem bytesStep : Tryd.prog.bytesOf 66 = 24 := by kernel_rfl

/-- What the row's list gives: the table of powers of ten. -/
theorem table {W : World} (h : laidMetH Tryd.prog Rows.agreeRow.laid W) : Lib.TabIs Tryd.prog W "internal/strconv.uint64pow10" .u64 Lib.pow10Tab := by
  obtain ⟨ps, h1, _⟩ := (h : laidMet Tryd.prog Rows.agreeRow.laid W)
  obtain ⟨_, _, _, _, _, _, _, _, _, _, h2, _⟩ := h1
  obtain ⟨_, _, _, _, _, _, _, _, _, _, h3, _⟩ := h2
  obtain ⟨g, t, cs, fuel, p, q, hg, ht, hvar, hd, _, _⟩ := h3
  obtain rfl := Option.some.inj (gTab.symm.trans hg)
  obtain rfl := Option.some.inj (gTabType.symm.trans ht)
  have hd' : DataW.trod (fun _ => ()) Tryd.prog W 0 (fun _ => true) false fuel 134 cs.toList = some (Lib.tabData .u64 Lib.pow10Tab, p) := hd
  unfold Lib.TabIs
  rw [hvar, ← Lib.cells_of_tab Tryd.underlying134 Tryd.underlying22 cellsU64 cellsTab hd']

theorem weightsAll_mem {H : Type} {P : Program} {e : TypeId} {n : Nat} {d : DataW H} : ∀ {l : List (DataW H)}, d ∈ l → n ∈ d.weights P e → n ∈ DataW.weightsAll P e l
  | x :: r, hd, hn => by
    simp only [DataW.weightsAll, List.mem_append]
    rcases List.mem_cons.1 hd with rfl | hr
    · exact Or.inl hn
    · exact Or.inr (weightsAll_mem hr hn)

/-- Every text and list within is of a length that the form takes. -/
def Fits {H : Type} (P : Program) (t : TypeId) (d : DataW H) : Prop := ∀ n ∈ d.weights P t, n ≤ reachBytes
theorem isInt {H : Type} {enc : TypeId × Value → H} {P : Program} {w : World} {base : Nat} {spare : Nat → Bool} {held : Bool} {fuel : Nat} {t : TypeId} {x : DataW H × List MemPlace} {c : Value} (ht : P.underlying t = some (.int .i64)) (h : DataW.trod enc P w base spare held fuel t [c] = some x) : ∃ z : Int, c = .int .i64 z ∧ (-9223372036854775808 ≤ z ∧ z ≤ 9223372036854775807) := by
  obtain ⟨n, e, _, hw⟩ := DataW.trod_int ht h
  simp only [List.cons.injEq, and_true] at e
  exact ⟨n, e, bounds_i64 hw⟩
theorem list3 (cs : List Value) (h : cs.length = 3) : ∃ x0 x1 x2, cs = [x0, x1, x2] := by
  match cs, h with
  | [x0, x1, x2], _ => exact ⟨_, _, _, rfl⟩
def StepD.cells (s : StepD) : List Value := [.int .i64 s.kd, .int .i64 s.a, .int .i64 s.b]
set_option maxRecDepth 100000 in
theorem step_of_trod {H : Type} {enc : TypeId × Value → H} {w : World} {base : Nat} {spare : Nat → Bool} {held : Bool} {fuel : Nat} {cs : List Value} {x : DataW H × List MemPlace}
    (h : DataW.trod enc Tryd.prog w base spare held fuel 66 cs = some x) : ∃ s : StepD, s.Ok ∧ cs = s.cells := by
  obtain ⟨xs, m, _, _, hl, hlen, hf⟩ := DataW.trod_struct Tryd.underlying66 h
  rw [cellsStep] at hl
  obtain ⟨x0, x1, x2, rfl⟩ := list3 cs hl
  have g0 : ∃ y, DataW.trod enc Tryd.prog w base spare held m 3 [x0] = some y := by
    have := hf 0 _ rfl
    rw [List.getElem?_eq_getElem (by rw [hlen]; decide)] at this
    exact ⟨_, by simpa [cellsInt] using this⟩
  have g1 : ∃ y, DataW.trod enc Tryd.prog w base spare held m 3 [x1] = some y := by
    have := hf 1 _ rfl
    rw [List.getElem?_eq_getElem (by rw [hlen]; decide)] at this
    exact ⟨_, by simpa [cellsInt] using this⟩
  have g2 : ∃ y, DataW.trod enc Tryd.prog w base spare held m 3 [x2] = some y := by
    have := hf 2 _ rfl
    rw [List.getElem?_eq_getElem (by rw [hlen]; decide)] at this
    exact ⟨_, by simpa [cellsInt] using this⟩
  obtain ⟨_, h0⟩ := g0
  obtain ⟨_, h1⟩ := g1
  obtain ⟨_, h2⟩ := g2
  obtain ⟨z0, rfl, _⟩ := isInt Tryd.underlying3 h0
  obtain ⟨z1, rfl, b1⟩ := isInt Tryd.underlying3 h1
  obtain ⟨z2, rfl, b2⟩ := isInt Tryd.underlying3 h2
  exact ⟨⟨z0, z1, z2⟩, ⟨b1.1, b1.2, b2.1, b2.2⟩, rfl⟩
set_option maxRecDepth 100000 in
/-- The walk, at whatever reads as a script. -/
theorem walk {H : Type} {enc : TypeId × Value → H} {W : World} {a : Option Addr} {len cap : Nat} {d : DataW H} {p : List MemPlace} (li pa : Int) (l0 : -9223372036854775808 ≤ li) (l1 : li ≤ 9223372036854775807) (p0 : -9223372036854775808 ≤ pa) (p1 : pa ≤ 9223372036854775807)
    (h0 : DataW.Trod enc Tryd.prog W 0 (fun _ => true) true 76 (.slice a len cap) d p) (hx : Fits Tryd.prog 76 d)
    (htab : Lib.TabIs Tryd.prog W "internal/strconv.uint64pow10" .u64 Lib.pow10Tab) :
    Calls Tryd.prog 9 #[.slice a len cap, .int .i64 li, .int .i64 pa] W fun e w' => e = .returned (.bool true) ∧ Below W.heap.size W w' := by
  obtain ⟨fuel, hf⟩ := h0
  have nil : ∀ (a : Option Addr) (cap : Nat), Calls Tryd.prog 9 #[.slice a 0 cap, .int .i64 li, .int .i64 pa] W fun e w' => e = .returned (.bool true) ∧ Below W.heap.size W w' := fun a cap =>
    kagreeL [] (fun s hs => by cases hs) (by decide) a cap 0 0 li pa l0 l1 p0 p1 W ⟨htab⟩ (fun h => absurd h (by decide)) (fun i hi => absurd hi (Nat.not_lt_zero _))
  rcases Go.Deep.open_slice Tryd.underlying76 hf with ⟨hcs, _⟩ | ⟨x, l, c, m, n, D, Pl, hcs, _, hl, hm, hmm, hxx, hel⟩
  · simp [Value.cells] at hcs
    obtain ⟨rfl, rfl, rfl⟩ := hcs
    exact nil none 0
  · simp [Value.cells] at hcs
    obtain ⟨rfl, rfl, rfl⟩ := hcs
    obtain rfl : d = _ := (Prod.ext_iff.1 hxx).1
    have hlm : len ≤ m := by rw [hmm]; split <;> omega
    have hlen : len ≤ 6000000000000 := by
      have := hx ((((List.range len).map D).length + ((List.range (m - len)).map fun j => D (len + j)).length) * Tryd.prog.bytesOf 66) (by
        simp only [DataW.weights, Tryd.underlying76, List.mem_cons]
        exact Or.inl trivial)
      rw [bytesStep] at this
      simp at this
      have hr : reachBytes = 140737488351232 := rfl
      omega
    by_cases hz : len = 0
    · subst hz
      exact nil _ _
    · have h1 := hel 0 (by omega)
      obtain ⟨b, off, spot⟩ := x
      obtain ⟨cs0, hc0, _⟩ := h1
      rw [cellsStep] at hel hc0
      have hspot : spot = none := by
        obtain ⟨_, hl0, hq⟩ := World.cells?_some hc0
        have hq0 := hq 0 (by omega)
        rw [List.getElem?_eq_getElem (by omega)] at hq0
        simpa [Addr.add] using World.cell?_spot hq0
      subst hspot
      have hb : b < W.heap.size := by simpa [Addr.add] using World.cells?_block hc0 (by omega)
      haveI : Inhabited StepD := ⟨⟨0, 0, 0⟩⟩
      obtain ⟨O, hO⟩ := Go.Deep.choose_lt (n := len) (p := fun i (o : StepD) => o.Ok ∧ W.rangeAt b (off + i * 3) o.cells) (fun i hi => by
        obtain ⟨cs', hc, ht⟩ := hel i (by omega)
        obtain ⟨o, ok, rfl⟩ := step_of_trod (x := (D i, Pl i)) ht
        refine ⟨o, ok, fun j v hv => ?_⟩
        obtain ⟨_, hl0, hq⟩ := World.cells?_some hc
        have hj : j < 3 := by rw [← hl0]; exact (List.getElem?_eq_some_iff.1 hv).1
        have := hq j hj
        rw [Lib.add_plain, Lib.add_plain, hv] at this
        exact this)
      have hL : ((List.range len).map O).length = len := by simp
      have hg : ∀ (i : Nat) (hi : i < ((List.range len).map O).length), ((List.range len).map O)[i] = O i := fun i hi => by simp
      have := kagreeL ((List.range len).map O) (fun s hs => by
        obtain ⟨i, hi, rfl⟩ := List.mem_map.1 hs
        exact (hO i (List.mem_range.1 hi)).1) (by rw [hL]; omega) (some ⟨b, off, none⟩) cap b off li pa l0 l1 p0 p1 W ⟨htab⟩ (fun _ => ⟨rfl, hb⟩) (fun i hi => by
        rw [hg i hi]
        have hr := (hO i (by rw [hL] at hi; exact hi)).2
        exact ⟨hr 0 _ rfl, hr 1 _ rfl, hr 2 _ rfl⟩)
      rw [hL] at this
      exact this

set_option maxRecDepth 100000 in
theorem contract (H : Type) (enc : TypeId × Value → H) (W : World) (base : Nat) (args : Array Value) (ds gs : List (DataW H)) (before : List MemPlace)
    (hval : ∀ (j : Nat) t v, Tryd.f9.params[j]? = some t → args[j]? = some v → Value.okWide Tryd.prog W .any base t v)
    (hW : DataW.Whole enc Tryd.prog Tryd.f9.params.toList Rows.agreeSpec.vars false W args.toList ds gs before)
    (hsz : (DataW.weightsEach Tryd.prog (Tryd.f9.params.toList ++ (OpenSpec.ofChange Rows.agreeSpec).bare.plain.varTypes Tryd.prog) (ds ++ gs)).all (· ≤ reachBytes) = true) (hL : laidMetH Tryd.prog Rows.agreeRow.laid W) :
    Calls Tryd.prog 9 args W fun e W' => ∃ v, e = .returned v ∧ Rows.agreeSpec.post enc Tryd.prog Tryd.f9 false true false false W args v W' := by
  have hW' := hW
  obtain ⟨p, q, hA0, hV, rfl, hfz, hnd⟩ := hW
  have hA : DataW.TrodAll enc Tryd.prog W 0 (fun _ => true) true Tryd.f9.params.toList args.toList ds p := hA0
  rw [Tryd.params9] at hA hval hsz
  obtain ⟨v0, vs0, d0, ds0, p0, q0, hargs, rfl, rfl, h0, r0⟩ := trodAll_cons hA
  obtain ⟨v1, vs1, d1, ds1, p1, q1, rfl, rfl, rfl, h1, r1⟩ := trodAll_cons r0
  obtain ⟨v2, vs2, d2, ds2, p2, q2, rfl, rfl, rfl, h2, r2⟩ := trodAll_cons r1
  obtain ⟨rfl, rfl, rfl⟩ := trodAll_nil r2
  obtain rfl : args = #[v0, v1, v2] := by cases args; simp_all
  obtain ⟨rfl, rfl⟩ := trodVars_none hV
  obtain ⟨a0, len0, cap0, rfl⟩ := okWide_slice Tryd.underlying76 (hval 0 76 v0 rfl rfl)
  obtain ⟨a1, rfl, rfl, rfl, w1⟩ := open_int Tryd.underlying3 (hval 1 3 v1 rfl rfl) h1
  obtain ⟨a2, rfl, rfl, rfl, w2⟩ := open_int Tryd.underlying3 (hval 2 3 v2 rfl rfl) h2
  have k0 := h0
  have lt0 : ∀ x ∈ p0, x.block < W.heap.size := by obtain ⟨m, hm⟩ := k0; exact DataW.trod_lt m _ _ _ hm
  have hx : Fits Tryd.prog 76 d0 := fun n hn => by
    have := List.all_eq_true.1 hsz n (DataW.weights_mem_each (j := 0) (t := 76) (d := d0) rfl rfl n hn)
    simpa using this
  clear hA0
  have b1 := bounds_i64 w1
  have b2 := bounds_i64 w2
  refine (walk a1 a2 b1.1 b1.2 b2.1 b2.2 h0 hx (table hL)).mono fun e W' ⟨he, bel⟩ => ?_
  subst he
  exact ⟨_, rfl, _, _, _, [], _, [], hW', trodAll_mk1 (shut_bool Tryd.underlying4 _), (trodAll_cons_mk (Below.trod laidOut (by kernel_rfl) (of_decide_eq_true (by kernel_rfl)) k0 bel lt0) (trodAll_cons_mk (shut_int Tryd.underlying3 w1) (trodAll_cons_mk (shut_int Tryd.underlying3 w2) trodAll_mk0))), rfl, bel.frame _, fun h => by cases h⟩

/-- The cells of a listed table. -/
def cellsOfData : DataW Unit → Array Value
  | .agg l => (l.map fun d => match d with | .lit (.int k n) => Value.int k n | _ => .bool false).toArray
  | _ => #[]
/-- A world for the witness: the one at hand, the three tables holding what their initialisers lay. -/
def laidWorld (w : World) : World :=
  { w with heap := (((w.heap.modify 0 fun
      | .cells _ t frozen => .cells (cellsOfData Rows.laid_internal_strconv_uint64pow10) t frozen
      | o => o).modify 2 fun
      | .cells _ t frozen => .cells (cellsOfData Rows.laid_math_bits_deBruijn32tab) t frozen
      | o => o).modify 3 fun
      | .cells _ t frozen => .cells (cellsOfData Rows.laid_math_bits_deBruijn64tab) t frozen
      | o => o) }
theorem laid_met (os : Os) : laidMet Tryd.prog Rows.agreeRow.laid ((laidWorld (World.holding Tryd.prog os ⟨#[], #[], []⟩)).forCall (fun _ _ => 0) ⟨#[], #[.slice none 0 0, .int .i64 0, .int .i64 0], []⟩).memory :=
  laidMet_of_run' 8 (by kernel_rfl) (by kernel_rfl)
theorem reads (os : Os) {H : Type} (enc : TypeId × Value → H) : ∃ places, DataW.whole enc Tryd.prog ((laidWorld (World.holding Tryd.prog os ⟨#[], #[], []⟩)).forCall (fun _ _ => 0) ⟨#[], #[.slice none 0 0, .int .i64 0, .int .i64 0], []⟩).memory Tryd.f9.params.toList Rows.agreeSpec.vars false #[Value.slice none 0 0, .int .i64 0, .int .i64 0].toList 8 = some ([.nil, .lit (.int .i64 0), .lit (.int .i64 0)], [], places) :=
  ⟨[], by kernel_rfl⟩

set_option maxRecDepth 100000 in
theorem lifted (os : Os) (started : os.Started) (H : Type) (enc : TypeId × Value → H) (F : Stop.Interp) :
    ReturnsInHanded {} Tryd.checked os 9 .any ((OpenSpec.ofChange Rows.agreeSpec).preRow enc Tryd.prog Tryd.f9 Rows.agreeRow.domain false Rows.agreeRow.laid) (((OpenSpec.ofChange Rows.agreeSpec).at F).post enc Tryd.prog Tryd.f9 false true false false) := by
  obtain ⟨places, hx⟩ := reads os enc
  refine returnsInHanded_of_row (C := Tryd.checked) (s := OpenSpec.ofChange Rows.agreeSpec) own started (by kernel_rfl) Tryd.func9
    (witness_row_at (enc := enc) (C := Tryd.checked) false (laidWorld (World.holding Tryd.prog os ⟨#[], #[], []⟩)) #[.slice none 0 0, .int .i64 0, .int .i64 0] rfl (by kernel_rfl) (by kernel_rfl) (by kernel_rfl)
      (OpenSpec.preRow_of_cond 8 hx (by kernel_rfl) (fun k hk => by cases hk) (by kernel_rfl) (laid_met os))) ?_
  intro W base args ds gs before hval hW _ _ hsz hL _ _
  exact contract H enc W base args ds gs before hval hW hsz hL

theorem agree_said : Rows.AgreeSaid :=
  OpenClaim.holds_of_cond 9 Tryd.f9 rfl rfl rfl rfl rfl rfl rfl ⟨rfl, rfl, rfl, rfl, rfl⟩ rfl rfl rfl rfl rfl (by kernel_rfl) Tryd.func9 (by kernel_rfl)
    (of_decide_eq_true (by kernel_rfl)) (by unfold Func.isWrapper; first | (rw [if_pos (by decide +kernel)]; kernel_rfl) | (rw [if_neg (by decide +kernel)]; exact ⟨rfl, rfl⟩))
    (fun os started H enc _ F => by rw [OpenClaim.pre_eq_preRow]; exact lifted os started H enc F)

/-- No parameter wants a stand-in; the program's own looks are off: what the card asks. -/
theorem plainCard (f : FuncId) (fn : Func) (hf : Tryd.pinned.checked.prog.funcNamed "parley/parleykeep.Agree" = some f) (hfn : Tryd.pinned.checked.prog.funcs[f]? = some fn) :
    false = Tryd.pinned.checked.prog.looks [] ∧ ∀ (j : Nat) t, fn.params[j]? = some t → Tryd.pinned.checked.prog.wantsStandIn t = false := by
  obtain rfl : f = 9 := Option.some.inj ((show Tryd.prog.funcNamed "parley/parleykeep.Agree" = some 9 by kernel_rfl).symm.trans hf) |>.symm
  obtain rfl : fn = Tryd.f9 := (Option.some.inj (Tryd.func9.symm.trans hfn)).symm
  refine ⟨by kernel_rfl, fun j t ht => ?_⟩
  rw [Tryd.params9] at ht
  have hm := Array.mem_of_getElem? ht
  have hc : t = 76 ∨ t = 3 := by simp at hm; exact hm
  rcases hc with rfl | rfl
  · exact (show Tryd.prog.wantsStandIn 76 = false by kernel_rfl)
  · exact (show Tryd.prog.wantsStandIn 3 = false by kernel_rfl)

/-- The card. -/
theorem agree_card : Rows.AgreeCardSaid :=
  Claim7.holds_tied_plain_at .later [] _ _ _ _ agree_said (fun _ h => by cases h) (by kernel_rfl) (fun _ h => by cases h) agree_row_tie rfl ⟨rfl, rfl⟩ (by kernel_rfl) rfl plainCard (by kernel_rfl)
#print axioms agree_card
end Go.Proofs.YtkehpnobidendaaDoor
