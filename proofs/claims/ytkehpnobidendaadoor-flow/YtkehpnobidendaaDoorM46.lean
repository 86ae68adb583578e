/- parleykeep's begins. parleykeep's begins: the walk. -/
import Derived.Test.YtkehpnobidendaaDoorM36
import Derived.Test.YtkehpnobidendaaDoorM29
namespace Go.Proofs.YtkehpnobidendaaDoor
open Go.RowKit

def nilS : Value := .slice none 0 0
/-- The new cluster in memory. -/
theorem kfresh (w : World) (K : Clu) (hl : K.letters = []) (hc : K.certs = [Crt.zero]) (hv : K.voted = []) (h0 : K.w0 = Sta.zero) (h1 : K.w1 = Sta.zero) (h2 : K.w2 = Sta.zero) (h3 : K.w3 = Sta.zero) (hb : K.blocks = []) :
    Bun ((w.alloc (.cells Crt.zero.cells.toArray 26)).alloc (.cells (ccells K nilS nilS (.slice (some ⟨w.heap.size, 0, none⟩) 1 1) nilS nilS nilS nilS nilS nilS) 62)) (w.heap.size + 1) 62 (fun k => k = w.heap.size ∨ k = w.heap.size + 1) (ccells K nilS nilS (.slice (some ⟨w.heap.size, 0, none⟩) 1 1) nilS nilS nilS nilS nilS nilS)
      [nilS, nilS, .slice (some ⟨w.heap.size, 0, none⟩) 1 1, nilS, nilS, nilS, nilS, nilS, nilS] kE (kX [] K) := by
  have hx : kX [] K = [(0, []), (0, []), (1, Crt.zero.cells), (0, []), (0, []), (0, []), (0, []), (0, []), (0, [])] := by
    simp [kX, hl, hc, hv, h0, h1, h2, h3, hb, Sta.zero]
  rw [hx]
  have hz : (w.alloc (.cells Crt.zero.cells.toArray 26)).heap.size = w.heap.size + 1 := by simp
  have hcb : ((w.alloc (.cells Crt.zero.cells.toArray 26)).alloc (.cells (ccells K nilS nilS (.slice (some ⟨w.heap.size, 0, none⟩) 1 1) nilS nilS nilS nilS nilS nilS) 62)).heap[w.heap.size]? = some (.cells Crt.zero.cells.toArray 26 (0, 0)) := (Below.heap_alloc _ _ _ (by rw [hz]; omega)).trans (heap_alloc_new w _)
  have hown : ∀ (i : Nat) (v : Value) (k : Nat), ([nilS, nilS, .slice (some ⟨w.heap.size, 0, none⟩) 1 1, nilS, nilS, nilS, nilS, nilS, nilS] : List Value)[i]? = some v → v.ownBlock = some k → i = 2 ∧ k = w.heap.size := by
    intro i v k hv hk
    rcases i with _ | _ | _ | _ | _ | _ | _ | _ | _ | i <;> simp at hv <;> subst hv <;> first | (cases hk; done) | (cases hk; exact ⟨rfl, rfl⟩)
  refine ⟨.inr rfl, ?_, fun i v e x hv he hx => ?_, fun i v hv hk => ?_, fun i j v u k hv hu hij hk hk2 => ?_, by simp [kE], fun k hk => ?_⟩
  · have := heap_alloc_new (w.alloc (.cells Crt.zero.cells.toArray 26)) (.cells (ccells K nilS nilS (.slice (some ⟨w.heap.size, 0, none⟩) 1 1) nilS nilS nilS nilS nilS nilS) 62)
    rw [hz] at this; exact this
  · rcases i with _ | _ | _ | _ | _ | _ | _ | _ | _ | i <;> simp [kE] at hv he hx <;> subst hv he hx
    case succ.succ.zero => exact ⟨rfl, .inr ⟨w.heap.size, 0, 1, _, rfl, .inl rfl, hcb, by omega, by unfold maxLen; omega, by simp [Crt.cells], rfl⟩⟩
    all_goals exact Row.nil _ _ _ _
  · have := (hown i v _ hv hk).2; omega
  · have a1 := (hown i v k hv hk).1; have a2 := (hown j u k hu hk2).1; omega
  · rcases hk with rfl | rfl <;> simp [World.size_alloc] <;> omega
def appM (args : Array Value) : Sem Value := Builtin.append_ #[54, 54] 54 args
theorem app_m (args : Array Value) : Builtin.append_ #[54, 54] 54 args = appM args := rfl
theorem info_mptr : (Tryd.prog.info? 31).map (fun i => (i.zero, i.size, i.bytes)) = some (some (.pointer none), 1, 8) := by kernel_rfl
/-- A pointer behind the cluster's members. -/
theorem KMem.appM {w : World} {p : Nat} {S : Nat → Prop} {ps : List (Option Nat)} {K : Clu} (h : KMem w p S ps K) (o : Option Nat) (hn : ps.length ≤ 1700000000) :
    ∃ al cl a' c' w1, (appM #[.slice al ps.length cl, .slice (some ⟨w.heap.size, 0, none⟩) 1 1]).run Tryd.prog (w.alloc (.cells #[mptr o] 31)) = .ok (.slice a' (ps.length + 1) c') w1 ∧ KApp w w1 p S (ps ++ [o]) K 0 (.slice al ps.length cl) (.slice a' (ps.length + 1) c') := by
  obtain ⟨um, ul, uc, uv, u0, u1, u2, u3, ub, hB⟩ := h.ex
  have hRL : Row w S 31 1 um ps.length (ps.flatMap mcells) := hB.row 0 _ _ _ rfl rfl rfl
  obtain ⟨al, cl, rfl⟩ := hRL.isSlice
  obtain ⟨i0, hi0, hz0, hz1, hz2⟩ := info_parts info_mptr
  have hr := (hB.alloc (.cells #[mptr o] 31)).row 0 _ (31, 1) (ps.length, ps.flatMap mcells) rfl rfl rfl
  obtain ⟨v', w1, hrun, hr', hf⟩ := run_append_row Tryd.prog (w.alloc (.cells #[mptr o] 31)) S 54 54 31 i0 (.pointer none) 1 8 Tryd.underlying54 hi0 hz0 hz1 hz2 rfl _ ps.length _ hr ⟨w.heap.size, 0, none⟩ 1 1 [mptr o] rfl (new_cells w [mptr o] 31 rfl) (by simp [mptr, Value.oneCell']) (by omega) (by unfold maxLen; omega) (by omega)
  obtain ⟨a', c', rfl⟩ := hr'.isSlice
  have hb7 := (hB.alloc _).after 0 rfl hf
  refine ⟨al, cl, a', c', w1, hrun, cell_at hB.box 0, fun o => cell_at (hB.alloc o).box 0, cell_at hb7 0, free_at hb7 0, fun k => S k ∨ (Value.slice a' (ps.length + 1) c').ownBlock = some k, ⟨⟨.slice a' (ps.length + 1) c', ul, uc, uv, u0, u1, u2, u3, ub, ?_⟩, ?_, ?_⟩, ?_, ?_⟩
  · exact (hB.alloc _).put 0 rfl rfl _ (ps.length + 1, ps.flatMap mcells ++ [mptr o]) hr' hf 0 rfl rfl (by simp [kX, mcells])
  · exact tab_put (hB.alloc _) (h.tab.below (below_alloc _ _)) h.t0 0 rfl hf 0 _
  · exact t0_put (hB.alloc _) h.t0 0 rfl hr'
  · exact grow_put hr' (by simp) (fun k hk => (hRL.ownS hk).1)
  · exact (hB.alloc _).frPut (S := S) (w := w) (Fr.alloc S w _) 0 rfl hf 0 _
/-- A cluster that is being made: its first n members lie there; all of it is new. -/
structure KPart (w0 w : World) (p : Nat) (A : Nat → Nat → Prop) (ps : List (Option Nat)) (K : Clu) (n : Nat) : Prop where
  k : KMem w p (A 0) ps K
  l : ps.length = n
  mem : ∀ i, i < n → KAt w (A (i + 1)) (ps.getD i none) (K.memAt i)
  lt : ∀ i b, i < n + 1 → A i b → b < w.heap.size
  z : ∀ i, i < n + 1 → ¬ A i 0
  dis : ∀ i j b, i < n + 1 → j < n + 1 → A i b → A j b → i = j
  new : ∀ i b, i < n + 1 → A i b → w0.heap.size ≤ b
  be : Below w0.heap.size w0 w
theorem KPart.add {w0 w w1 w2 : World} {p : Nat} {A : Nat → Nat → Prop} {ps : List (Option Nat)} {K : Clu} {n : Nat} (h : KPart w0 w p A ps K n) (hb : Below w.heap.size w w1) {o : Option Nat} {Sm : Nat → Prop} (ho : KAt w1 Sm o (K.memAt n)) (hs : ∀ b, Sm b → w.heap.size ≤ b ∧ b < w1.heap.size) {S' : Nat → Prop}
    (hk : KMem w2 p S' (ps ++ [o]) K) (hg : Grow (A 0) w1 S') (hf : Fr (A 0) w1 w2) : KPart w0 w2 p (updA (updA A 0 S') (n + 1) Sm) (ps ++ [o]) K (n + 1) := by
  have hl := h.l
  have hz0 := h.z 0 (by omega)
  have hpos : 0 < w.heap.size := by have := h.lt 0 p (by omega) h.k.sp; omega
  have hw0 : w0.heap.size ≤ w.heap.size := h.be.size
  have hw1 := hb.size
  have hw2 := hf.size
  have e0 : updA (updA A 0 S') (n + 1) Sm 0 = S' := by rw [updA_ne _ _ (by omega), updA_at]
  have en : updA (updA A 0 S') (n + 1) Sm (n + 1) = Sm := updA_at _ _ _
  have ei : ∀ i, i ≠ 0 → i ≠ n + 1 → updA (updA A 0 S') (n + 1) Sm i = A i := fun i h1 h2 => by rw [updA_ne _ _ h2, updA_ne _ _ h1]
  have hS' : ∀ b, S' b → (A 0 b ∨ w1.heap.size ≤ b) := hg
  refine ⟨by rw [e0]; exact hk, by simp [hl], fun i hi => ?_, fun i b hi hb2 => ?_, fun i hi hb2 => ?_, fun i j b hi hj h1 h2 => ?_, fun i b hi hb2 => ?_, ?_⟩
  · by_cases e : i = n
    · subst e
      rw [en]
      have : (ps ++ [o]).getD i none = o := by rw [List.getD_eq_getElem?_getD, List.getElem?_append_right (by omega), hl]; simp
      rw [this]
      exact ho.fr hf (fun k h1 h2 => by have := (hs k h1).1; have := h.lt 0 k (by omega) h2; omega) hz0
    · rw [ei (i + 1) (by omega) (by omega)]
      have : (ps ++ [o]).getD i none = ps.getD i none := by rw [List.getD_eq_getElem?_getD, List.getElem?_append_left (by omega), ← List.getD_eq_getElem?_getD]
      rw [this]
      exact ((h.mem i (by omega)).below hb).fr hf (fun k h1 h2 => absurd (h.dis (i + 1) 0 k (by omega) (by omega) h1 h2) (by omega)) hz0
  · by_cases e : i = 0
    · subst e; rw [e0] at hb2; exact hk.own b hb2
    · by_cases e2 : i = n + 1
      · subst e2; rw [en] at hb2; have := (hs b hb2).2; omega
      · rw [ei i e e2] at hb2; have := h.lt i b (by omega) hb2; omega
  · by_cases e : i = 0
    · subst e; rw [e0] at hb2; exact hk.t0 hb2
    · by_cases e2 : i = n + 1
      · subst e2; rw [en] at hb2; have := (hs 0 hb2).1; omega
      · rw [ei i e e2] at hb2; exact h.z i (by omega) hb2
  · have key : ∀ i b, i < n + 1 + 1 → updA (updA A 0 S') (n + 1) Sm i b → (i < n + 1 ∧ A i b ∧ b < w.heap.size) ∨ (i = 0 ∧ w1.heap.size ≤ b) ∨ (i = n + 1 ∧ w.heap.size ≤ b ∧ b < w1.heap.size) := fun i b hi hb2 => by
      by_cases e : i = 0
      · subst e; rw [e0] at hb2
        rcases hS' b hb2 with h3 | h3
        · exact .inl ⟨by omega, h3, h.lt 0 b (by omega) h3⟩
        · exact .inr (.inl ⟨rfl, h3⟩)
      · by_cases e2 : i = n + 1
        · subst e2; rw [en] at hb2; exact .inr (.inr ⟨rfl, hs b hb2⟩)
        · rw [ei i e e2] at hb2; exact .inl ⟨by omega, hb2, h.lt i b (by omega) hb2⟩
    rcases key i b hi h1 with ⟨a1, a2, a3⟩ | ⟨a1, a2⟩ | ⟨a1, a2, a3⟩ <;> rcases key j b hj h2 with ⟨c1, c2, c3⟩ | ⟨c1, c2⟩ | ⟨c1, c2, c3⟩
    · exact h.dis i j b a1 c1 a2 c2
    all_goals omega
  · by_cases e : i = 0
    · subst e; rw [e0] at hb2
      rcases hS' b hb2 with h3 | h3
      · exact h.new 0 b (by omega) h3
      · omega
    · by_cases e2 : i = n + 1
      · subst e2; rw [en] at hb2; have := (hs b hb2).1; omega
      · rw [ei i e e2] at hb2; exact h.new i b (by omega) hb2
  · have hb1 := bnext h.be hb
    exact ⟨hf.os.trans hb1.os, hf.tape.trans hb1.tape, hf.output.trans hb1.output, Nat.le_trans hb1.size hf.size, fun b hb2 => (hf.block b (by omega) (fun h1 => by have := h.new 0 b (by omega) h1; omega)).trans (hb1.block b hb2)⟩
theorem KPart.sit {w0 w : World} {p : Nat} {A : Nat → Nat → Prop} {ps : List (Option Nat)} {K : Clu} (h : KPart w0 w p A ps K 4) : KSit w p A ps K := ⟨h.k, h.l, h.mem, h.lt, h.z, h.dis⟩
theorem begins_at (liar patience : Int) (k : Nat) (hk : k < 4) : (Clu.begins liar patience).memAt k = if (k : Int) = liar then none else some (Mem.new k patience) := by
  rcases (by omega : k = 0 ∨ k = 1 ∨ k = 2 ∨ k = 3) with rfl | rfl | rfl | rfl <;> rfl
end Go.Proofs.YtkehpnobidendaaDoor

namespace Go.Proofs.YtkehpnobidendaaDoor
open Go.RowKit
attribute [local go_sem ↓] app_m

/-- What begins gives. -/
structure KBegun (w : World) (liar patience : Int) (e : Ending) (w' : World) : Prop where
  ex : ∃ p A ps, e = .returned (.tuple #[.pointer (some ⟨p, 0, none⟩), .bool true]) ∧ KSit w' p A ps (Clu.begins liar patience) ∧ (∀ b, UA A b → w.heap.size ≤ b) ∧ Below w.heap.size w w'

set_option maxRecDepth 100000 in
set_option maxHeartbeats 4000000 in
theorem kbegins (w : World) (ht : Tab w) (liar patience : Int) (hp0 : 1 ≤ patience) (hp1 : patience ≤ 100) :
    Calls Tryd.prog 19 #[.int .i64 liar, .int .i64 patience] w fun e w' => KBegun w liar patience e w' := by
  have H0 := kfresh w (Clu.begins liar patience) rfl rfl rfl rfl rfl rfl rfl rfl
  have HPT : Hid (KPart w ((w.alloc (.cells Crt.zero.cells.toArray 26)).alloc (.cells (ccells (Clu.begins liar patience) nilS nilS (.slice (some ⟨w.heap.size, 0, none⟩) 1 1) nilS nilS nilS nilS nilS nilS) 62)) (w.heap.size + 1) (fun _ k => k = w.heap.size ∨ k = w.heap.size + 1) [] (Clu.begins liar patience) 0) := by
    have hb : Below w.heap.size w ((w.alloc (.cells Crt.zero.cells.toArray 26)).alloc (.cells (ccells (Clu.begins liar patience) nilS nilS (.slice (some ⟨w.heap.size, 0, none⟩) 1 1) nilS nilS nilS nilS nilS nilS) 62)) := bnext (below_alloc _ _) (below_alloc _ _)
    have hpos := ht.pos
    refine ⟨⟨⟨_, _, _, _, _, _, _, _, _, H0⟩, ht.below hb, fun e => by omega⟩, rfl, fun i hi => by omega, fun i b _ hb2 => H0.lt b hb2, fun i _ hb2 => by omega, fun i j b hi hj _ _ => by omega, fun i b _ hb2 => by omega, hb⟩
  have HNW : Hid (∀ W (k : Nat), k < 4 → Tab W → Calls Tryd.prog 14 #[.int .i64 k, .int .i64 patience] W fun e w' => ∃ p, e = .returned (.tuple #[.pointer (some ⟨p, 0, none⟩), .int .i64 0]) ∧ (∃ S, PMem w' p S (Mem.new k patience) ∧ ∀ k, S k → W.heap.size ≤ k) ∧ Below W.heap.size W w') := fun W k hk hW => pnew_ok k patience (by simp [newOk]; omega) W hW
  have hbe : ∀ k : Nat, k < 4 → (Clu.begins liar patience).memAt k = if (k : Int) = liar then none else some (Mem.new k patience) := begins_at liar patience
  have HBE : Hid (∀ k : Nat, k < 4 → (Clu.begins liar patience).memAt k = if (k : Int) = liar then none else some (Mem.new k patience)) := hbe
  have hli : (Clu.begins liar patience).liar = liar := rfl
  have hcc : ccells (Clu.begins liar patience) nilS nilS (.slice (some ⟨w.heap.size, 0, none⟩) 1 1) nilS nilS nilS nilS nilS nilS = #[.slice none 0 0, .int .i64 liar, .slice none 0 0, .slice (some ⟨w.heap.size, 0, none⟩) 1 1, .slice none 0 0, .int .i64 0, .int .i64 0, .int .i64 0, .slice none 0 0, .int .i64 0, .int .i64 0, .int .i64 0, .slice none 0 0, .int .i64 0, .int .i64 0, .int .i64 0, .slice none 0 0, .int .i64 0, .int .i64 0, .int .i64 0, .slice none 0 0, .int .i64 0, .slice none 0 0, .bool false] := rfl
  rw [hcc] at HPT
  have HFIN : Hid (∀ e w', (∃ p A ps, e = .returned (.tuple #[.pointer (some ⟨p, 0, none⟩), .bool true]) ∧ KSit w' p A ps (Clu.begins liar patience) ∧ (∀ b, UA A b → w.heap.size ≤ b) ∧ Below w.heap.size w w') → KBegun w liar patience e w') := fun e w' h => ⟨h⟩
  generalize Clu.begins liar patience = K at *
  dsimp only [Crt.cells, Crt.zero] at HPT
  clear H0 hbe hli hcc ht
  go_enter Tryd.func19, Tryd.ntmps19
  go_wp2
  go_loopw [7] (fun kk w' => ∃ (k : Nat) (A : Nat → Nat → Prop) (ps : List (Option Nat)), k ≤ 4 ∧ kk = .int .i64 k ∧ Hid (KPart w w' (w.heap.size + 1) A ps K k)) (fun kk _ => 4 - (intOf kk).toNat)
  case atStart => exact ⟨0, _, [], by omega, rfl, HPT.out⟩
  case round =>
    obtain ⟨k, A, ps, hk, rfl, hP⟩ := hrel
    have hk0 : (0 : Int) ≤ (k : Int) := by omega
    by_cases hk4 : k < 4
    rotate_left
    · have hkI : ¬ (k : Int) < 4 := by omega
      have hke : k = 4 := by omega
      subst hke
      go_wp2
      go_ret2
      refine HFIN.out _ _ ⟨w.heap.size + 1, A, ps, rfl, hP.out.sit, fun b hb => ?_, hP.out.be⟩
      obtain ⟨i, hi, h1⟩ := hb
      exact hP.out.new i b hi h1
    have hkI : (k : Int) < 4 := by omega
    have hat := HBE.out k hk4
    have HL : Hid (ps.length = k) := hP.out.l
    by_cases hli : (k : Int) = liar
    · rw [if_pos hli] at hat
      have hlb : ((k : Int) == liar) = true := by simp [hli]
      obtain ⟨al, cl, a', c', w1, hrun, hap⟩ := hP.out.k.appM none (by have := HL.out; omega)
      have q0 := hap.c0
      have q0a := hap.ca
      have q1 := hap.c1
      have f1 := hap.f1
      have HF : Hid (∃ A', KPart w (w1.setCell ⟨w.heap.size + 1, 0, none⟩ (.slice a' (ps.length + 1) c')) (w.heap.size + 1) A' (ps ++ [none]) K (k + 1)) := by
        obtain ⟨S', h1, h2, h3⟩ := hap.ex
        exact ⟨_, hP.out.add (Below.refl _ _) (Sm := fun _ => False) (by rw [hat]; trivial) (fun _ h => h.elim) h1 h2 h3⟩
      dsimp only [mptr, Option.map] at hrun
      clear hap hat
      go_wp2
      go_roundw
      case rel =>
        obtain ⟨A', h1⟩ := HF.out
        exact ⟨k + 1, A', _, by omega, by go_num, h1⟩
      case measure => simp [intOf]; omega
    · rw [if_neg hli] at hat
      have hlb : ((k : Int) == liar) = false := by simp [hli]
      have HTB : Hid (Tab wr) := hP.out.k.tab
      go_upto_region 8 with (go_at_call 14; (refine (HNW.out wr k hk4 HTB.out).mono ?_; rintro e w2 ⟨pm, rfl, hS, hb2⟩; have HS : Hid (∃ S, PMem w2 pm S (Mem.new k patience) ∧ ∀ k, S k → wr.heap.size ≤ k) := hS; have HB2 : Hid (Below wr.heap.size wr w2) := hb2; clear hS hb2))
      have hK2 : KMem w2 (w.heap.size + 1) (A 0) ps K := hP.out.k.below HB2.out
      obtain ⟨al, cl, a', c', w1, hrun, hap⟩ := hK2.appM (some pm) (by have := HL.out; omega)
      have q0 := hap.c0
      have q0a := hap.ca
      have q1 := hap.c1
      have f1 := hap.f1
      have HF : Hid (∃ A', KPart w (w1.setCell ⟨w.heap.size + 1, 0, none⟩ (.slice a' (ps.length + 1) c')) (w.heap.size + 1) A' (ps ++ [some pm]) K (k + 1)) := by
        obtain ⟨S', h1, h2, h3⟩ := hap.ex
        obtain ⟨Sm, h4, h5⟩ := HS.out
        exact ⟨_, hP.out.add HB2.out (Sm := Sm) (by rw [hat]; exact h4) (fun b hb => ⟨h5 b hb, h4.lt b hb⟩) h1 h2 h3⟩
      dsimp only [mptr, Option.map] at hrun
      clear hap hat hK2 HS HB2 HTB
      go_wp2
      go_roundw
      case rel =>
        obtain ⟨A', h1⟩ := HF.out
        exact ⟨k + 1, A', _, by omega, by go_num, h1⟩
      case measure => simp [intOf]; omega
end Go.Proofs.YtkehpnobidendaaDoor
