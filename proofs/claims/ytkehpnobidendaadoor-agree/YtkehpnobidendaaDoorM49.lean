/- parleykeep's cluster: a message that is refused changes nothing; steady, where nothing has changed. The hash's step is one to one: other members, other seals; a seal that an odd number was put upon is another one. No program in it. parleykeep's Sealed: the plain side. No program in it. parleykeep's Sealed: its two loops over the seals of a certificate. parleykeep's Sealed: what it does with a proposal: other seals in its certificate. parleykeep's lies: its drawn regions. -/
import Derived.Test.YtkehpnobidendaaDoorM48
import Derived.Test.YtkehpnobidendaaDoorM47
import Derived.Test.YtkehpnobidendaaDoorM37
import Derived.Test.YtkehpnobidendaaDoorM30
import Derived.BigQuiet
import Derived.BigRegion
import Derived.Deep.RegionHeld3
namespace Go.Proofs.YtkehpnobidendaaDoor
open Go.RowKit

theorem setMem_self {K : Clu} {k : Nat} {m : Mem} (h : K.memAt k = some m) : K.setMem k m = K := by
  have e : K.mem.set k (some m) = K.mem := by
    unfold Clu.memAt at h
    rw [List.getD_eq_getElem?_getD] at h
    cases hk : K.mem[k]? with
    | none => rw [hk] at h; cases h
    | some o =>
      rw [hk] at h
      have ho : o = some m := h
      subst ho
      obtain ⟨h1, h2⟩ := List.getElem?_eq_some_iff.1 hk
      rw [← h2, List.set_getElem_self]
  unfold Clu.setMem
  rw [e]
theorem setWas_self {K : Clu} {k : Nat} {s : Sta} (h : K.was k = s) : K.setWas k s = K := by
  subst h
  unfold Clu.setWas Clu.was
  split
  · rfl
  · split
    · rfl
    · split <;> rfl
/-- A message that is refused. -/
theorem krefused {w : World} {p pm : Nat} {A : Nat → Nat → Prop} {ps : List (Option Nat)} {K : Clu} {n : Nat} (h : KSit w p A ps K) (ok : KOk K n) (hn : n ≤ 1600000000) {k : Nat} (hk : k < 4) (hp : ps.getD k none = some pm) {m : Mem} (hm : K.memAt k = some m) {x : Msg} (hx : x.Ok) (hy : m.may = false) (he : (m.handle x).2.2 ≠ 0) :
    Calls Tryd.prog 25 #[.pointer (some ⟨pm, 0, none⟩), .agg x.cells.toArray] w fun e w' => ∃ a cap, e = .returned (.tuple #[.slice a 0 cap, .int .i64 (m.handle x).2.2]) ∧ KGoes w w' p A ps K ∧ Fr (A (k + 1)) w w' := by
  obtain ⟨pm', hq, hpm⟩ := h.some1 hk hm
  rw [hp] at hq
  obtain rfl := Option.some.inj hq
  have hmo := ok.at' hm
  have e1 := handle_err hy he
  refine (phandle w pm (A (k + 1)) m hpm hmo.iv hmo.i2 x hx (hmo.small (by omega))).mono ?_
  rintro e w' ⟨a, cap, he2, hg⟩
  have e2 : (m.handle x).2.1 = [] := by rw [e1]
  have e3 : (m.handle x).1 = m := by rw [e1]
  rw [e2] at he2 hg
  rw [e3] at hg
  obtain ⟨S', h1, h2, _⟩ := hg.ex
  refine ⟨a, cap, he2, ⟨⟨updA A (k + 1) S', ?_, grow_u (i := k + 1) h2⟩, fr_u (i := k + 1) (by omega) hg.fr⟩, hg.fr⟩
  have := h.turn ok.ml hk hp h1 h2 hg.fr
  rw [setMem_self hm] at this
  exact this
/-- steady, where what the member had is what it has. -/
theorem ksteady_same {w : World} {p : Nat} {A : Nat → Nat → Prop} {ps : List (Option Nat)} {K : Clu} {n : Nat} (h : KSit w p A ps K) (ok : KOk K n) (hn : n ≤ 1600000000) {k : Nat} (hk : k < 4) {m : Mem} (hm : K.memAt k = some m) (hw : K.was k = m.sta) (hg : m.sta.grows m.sta = true) :
    Calls Tryd.prog 26 #[.pointer (some ⟨p, 0, none⟩), .int .i64 k] w fun e w' => e = .returned (.bool true) ∧ KGoes w w' p A ps K := by
  obtain ⟨pm, hq, hpm⟩ := h.some1 hk hm
  have hmo := ok.at' hm
  have hl := log_len hmo.iv
  have hb := hmo.b
  have hwl := ok.wl k
  refine (ksteady w p (A 0) ps K h.k k hk pm (A (k + 1)) m h.l ?_ hpm (by omega) hmo.lgk (by omega)).mono ?_
  · rw [List.getD_eq_getElem?_getD] at hq
    have hk4 : k < ps.length := by have := h.l; omega
    rw [List.getElem?_eq_getElem hk4] at hq ⊢
    exact congrArg some hq
  · rintro e w' ⟨he, S', h1, h2, h3⟩
    rw [hw, hg] at he
    rw [setWas_self hw] at h1
    exact ⟨he, ⟨⟨updA A 0 S', h.clu h1 rfl h2 h3, grow_u (i := 0) h2⟩, fr_u (i := 0) (by omega) h3⟩⟩
end Go.Proofs.YtkehpnobidendaaDoor

namespace Go.Proofs.YtkehpnobidendaaDoor
open Go.RowKit

theorem mul_back (z : Int) : ((z * 1099511628211) % 18446744073709551616 * 14886173955864302971) % 18446744073709551616 = z % 18446744073709551616 := by
  have h1 : (z * 1099511628211 * 14886173955864302971) % 18446744073709551616 = ((z * 1099511628211) % 18446744073709551616 * 14886173955864302971) % 18446744073709551616 := by
    rw [Int.mul_emod (z * 1099511628211) 14886173955864302971, show (14886173955864302971 : Int) % 18446744073709551616 = 14886173955864302971 from by decide]
  rw [← h1, Int.mul_assoc, show (1099511628211 * 14886173955864302971 : Int) = 1 + 18446744073709551616 * 887285111055 from by decide, Int.mul_add, Int.mul_one, Int.mul_left_comm, Int.add_mul_emod_self_left]
theorem mul_inj {x y : Int} (hx : 0 ≤ x ∧ x < 18446744073709551616) (hy : 0 ≤ y ∧ y < 18446744073709551616) (h : (x * 1099511628211) % 18446744073709551616 = (y * 1099511628211) % 18446744073709551616) : x = y := by
  have h1 := mul_back x
  have h2 := mul_back y
  rw [h, h2] at h1
  rw [Int.emod_eq_of_lt hx.1 hx.2, Int.emod_eq_of_lt hy.1 hy.2] at h1
  exact h1.symm
theorem wrap_u64 (x : Int) : IntKind.u64.wrap x = x % 18446744073709551616 := by
  unfold IntKind.wrap
  simp only [show IntKind.u64.signed = false from rfl, show IntKind.u64.bits = 64 from rfl]
  rfl
theorem xor_eq (x y : Int) : bits BinOp.xor IntKind.u64 x y = ((BitVec.ofInt 64 x ^^^ BitVec.ofInt 64 y).toNat : Int) := by
  have h : bits BinOp.xor IntKind.u64 x y = IntKind.u64.wrap ((BitVec.ofInt 64 x ^^^ BitVec.ofInt 64 y).toNat : Int) := rfl
  rw [h, wrap_u64]
  have := (BitVec.ofInt 64 x ^^^ BitVec.ofInt 64 y).isLt
  omega
theorem ofInt_inj {x y : Int} (hx : 0 ≤ x ∧ x < 18446744073709551616) (hy : 0 ≤ y ∧ y < 18446744073709551616) (h : BitVec.ofInt 64 x = BitVec.ofInt 64 y) : x = y := by
  have h1 := congrArg BitVec.toNat h
  simp only [BitVec.toNat_ofInt] at h1
  omega
theorem xor_back (a b c : BitVec 64) (h : a ^^^ c = b ^^^ c) : a = b := by
  have := congrArg (· ^^^ c) h
  simpa [BitVec.xor_assoc] using this
theorem bv_range (a : BitVec 64) : 0 ≤ (a.toNat : Int) ∧ (a.toNat : Int) < 18446744073709551616 := by have := a.isLt; omega
theorem hstep_inj {x y : Int} (c : UInt8) (hx : 0 ≤ x ∧ x < 18446744073709551616) (hy : 0 ≤ y ∧ y < 18446744073709551616) (h : hstep x c = hstep y c) : x = y := by
  unfold hstep at h
  generalize IntKind.u64.wrap (c.toNat : Int) = d at h
  rw [xor_eq, xor_eq, wrap_u64, wrap_u64] at h
  have h1 := mul_inj (bv_range _) (bv_range _) h
  have h2 : BitVec.ofInt 64 x ^^^ BitVec.ofInt 64 d = BitVec.ofInt 64 y ^^^ BitVec.ofInt 64 d := BitVec.eq_of_toNat_eq (Int.ofNat.inj h1)
  exact ofInt_inj hx hy (xor_back _ _ _ h2)
theorem hstep_range (x : Int) (c : UInt8) : 0 ≤ hstep x c ∧ hstep x c < 18446744073709551616 := wrap_u64_range _
theorem fold_inj : ∀ (l : List UInt8) {x y : Int}, (0 ≤ x ∧ x < 18446744073709551616) → (0 ≤ y ∧ y < 18446744073709551616) → l.foldl hstep x = l.foldl hstep y → x = y
  | [], _, _, _, _, h => h
  | c :: r, _, _, hx, hy, h => hstep_inj c hx hy (fold_inj r (hstep_range _ c) (hstep_range _ c) h)
/-- Two members' seals of one vote differ. -/
theorem seal_ne (v : Int) (u : Nat) : sealOf 1 2 v u ≠ sealOf 2 2 v u := by
  intro h
  have e1 : Lib.itoa 1 = [49] := by decide +kernel
  have e2 : Lib.itoa 2 = [50] := by decide +kernel
  unfold sealOf fnv sealText at h
  rw [e1, e2] at h
  simp only [List.foldl_cons, List.cons_append, List.nil_append] at h
  have h1 := fold_inj _ (hstep_range _ _) (hstep_range _ _) h
  exact absurd h1 (by decide +kernel)
/-- An odd number put upon a seal makes another one. -/
theorem xor_ne (s off : Int) (hs : 0 ≤ s ∧ s < 18446744073709551616) : bits BinOp.xor IntKind.u64 s (bits BinOp.or IntKind.u64 off 1) ≠ s := by
  rw [xor_eq]
  intro h
  have h1 : (BitVec.ofInt 64 s ^^^ BitVec.ofInt 64 (bits BinOp.or IntKind.u64 off 1)) = BitVec.ofInt 64 s := by
    apply BitVec.eq_of_toNat_eq
    rw [BitVec.toNat_ofInt]
    omega
  have h2 : BitVec.ofInt 64 (bits BinOp.or IntKind.u64 off 1) = 0#64 := by
    have := congrArg (BitVec.ofInt 64 s ^^^ ·) h1
    simpa [← BitVec.xor_assoc] using this
  have h3 : bits BinOp.or IntKind.u64 off 1 = ((BitVec.ofInt 64 off ||| BitVec.ofInt 64 1).toNat : Int) := by
    have h : bits BinOp.or IntKind.u64 off 1 = IntKind.u64.wrap ((BitVec.ofInt 64 off ||| BitVec.ofInt 64 1).toNat : Int) := rfl
    rw [h, wrap_u64]
    have := (BitVec.ofInt 64 off ||| BitVec.ofInt 64 1).isLt
    omega
  rw [h3] at h2
  have h4 : BitVec.ofInt 64 off ||| BitVec.ofInt 64 1 = 0#64 := by
    have e : BitVec.ofInt 64 (((BitVec.ofInt 64 off ||| BitVec.ofInt 64 1).toNat : Int)) = BitVec.ofInt 64 off ||| BitVec.ofInt 64 1 := by
      apply BitVec.eq_of_toNat_eq
      rw [BitVec.toNat_ofInt]
      have := (BitVec.ofInt 64 off ||| BitVec.ofInt 64 1).isLt
      omega
    rw [← e]; exact h2
  have h5 := congrArg (fun b : BitVec 64 => b.getLsbD 0) h4
  simp at h5
end Go.Proofs.YtkehpnobidendaaDoor

namespace Go.Proofs.YtkehpnobidendaaDoor
open Go.RowKit

/-- What is asked of the letter that comes next, and of whom it is for. -/
def sealAt (K : Clu) (at1 : Nat) : Bool := !K.over && match K.letters[at1]? with
  | none => false
  | some l => decide (l.to ≤ 3 ∧ 0 ≤ l.msg.sl ∧ l.msg.sl < 18446744073709551616) && (List.range 4).all fun k => if l.to = k ∨ l.to < 0 then match K.memAt k with
    | none => false
    | some m => (!m.may && wasIs K k m) && ((m.takes l.msg).2.2 != 1 && ((m.takes l.msg).2.2 != 2 && (m.sta.grows m.sta && (if l.msg.kind = 1 ∧ 1 < l.msg.view then decide (1 ≤ l.msg.block.just.view) && (List.range 4).all (fun i => sealOf i 2 l.msg.block.just.view l.msg.block.just.block != 0) else true))))
  else true
def sealRun : Nat → Nat → Clu → Bool
  | 0, _, _ => true
  | f + 1, at1, K => (decide (at1 < 5) || sealAt K at1) && match K.letters[at1]? with
    | none => false
    | some l => (K.goes l 4 0).2 && sealRun f (at1 + 1) (K.goes l 4 0).1
theorem seal_run : sealRun 25 0 (ticked 50).1 = true := by decide +kernel
theorem sealRun_flows : ∀ (f at1 : Nat) (K : Clu), sealRun f at1 K = true → ∀ j, j < f → ∃ K', K.flows at1 j = (K', at1 + j, true) ∧ (5 ≤ at1 + j → sealAt K' (at1 + j) = true)
  | 0, _, _, _, _, hj => by omega
  | f + 1, at1, K, h, j, hj => by
    unfold sealRun at h
    rw [Bool.and_eq_true, Bool.or_eq_true, decide_eq_true_eq] at h
    obtain ⟨h1, h2⟩ := h
    cases j with
    | zero => exact ⟨K, rfl, fun hh => h1.resolve_left (by omega)⟩
    | succ j =>
      cases hl : K.letters[at1]? with
      | none => rw [hl] at h2; cases h2
      | some l =>
        rw [hl] at h2
        rw [Bool.and_eq_true] at h2
        obtain ⟨K', e1, e2⟩ := sealRun_flows f (at1 + 1) _ h2.2 j (by omega)
        refine ⟨K', ?_, fun hh => by have := e2 (by omega); rw [show at1 + (j + 1) = at1 + 1 + j by omega]; exact this⟩
        rw [Clu.flows, hl]
        show (if (K.goes l 4 0).2 then _ else _) = _
        rw [if_pos h2.1, e1, show at1 + 1 + j = at1 + (j + 1) by omega]
/-- All that the walk asks of the plain run. -/
structure SealOut (K : Clu) (i : Nat) (hl : i < K.letters.length) : Prop where
  ov : K.over = false
  to3 : K.letters[i].to ≤ 3
  sl : 0 ≤ K.letters[i].msg.sl ∧ K.letters[i].msg.sl < 18446744073709551616
  ms : ∀ k : Nat, k < 4 → (K.letters[i].to = (k : Int) ∨ K.letters[i].to < 0) → ∃ m, K.memAt k = some m ∧ m.may = false ∧ K.was k = m.sta ∧ m.sta.grows m.sta = true ∧ (m.takes K.letters[i].msg).2.2 ≠ 1 ∧ (m.takes K.letters[i].msg).2.2 ≠ 2 ∧
    (K.letters[i].msg.kind = 1 ∧ 1 < K.letters[i].msg.view → 1 ≤ K.letters[i].msg.block.just.view ∧ ∀ j : Nat, j < 4 → sealOf j 2 K.letters[i].msg.block.just.view K.letters[i].msg.block.just.block ≠ 0)
theorem sealAt_out {K : Clu} {i : Nat} (h : sealAt K i = true) : ∃ hl : i < K.letters.length, SealOut K i hl := by
  unfold sealAt at h
  rw [Bool.and_eq_true] at h
  obtain ⟨h1, h2⟩ := h
  cases hl : K.letters[i]? with
  | none => rw [hl] at h2; cases h2
  | some l =>
    rw [hl] at h2
    obtain ⟨hlt, hle⟩ := List.getElem?_eq_some_iff.1 hl
    simp only [Bool.and_eq_true, decide_eq_true_eq] at h2
    obtain ⟨h3, h4⟩ := h2
    refine ⟨hlt, ⟨by simpa using h1, by rw [hle]; exact h3.1, by rw [hle]; exact h3.2, fun k hk hto => ?_⟩⟩
    rw [List.all_eq_true] at h4
    have h5 := h4 k (by simpa using hk)
    rw [hle] at hto ⊢
    rw [if_pos hto] at h5
    cases hm : K.memAt k with
    | none => rw [hm] at h5; cases h5
    | some m =>
      rw [hm] at h5
      simp only [Bool.and_eq_true, Bool.not_eq_true', bne_iff_ne, ne_eq] at h5
      obtain ⟨⟨a1, a2⟩, a3, a4, a5, a6⟩ := h5
      refine ⟨m, rfl, a1, wasIs_out a2, a5, a3, a4, fun hk1 => ?_⟩
      rw [if_pos hk1, Bool.and_eq_true, decide_eq_true_eq, List.all_eq_true] at a6
      refine ⟨a6.1, fun j hj => ?_⟩
      have := a6.2 j (by simpa using hj)
      simpa using this
/-- Another seal: refused. -/
theorem sealed_other {m : Mem} {x : Msg} (h1 : (m.takes x).2.2 ≠ 1) (h2 : (m.takes x).2.2 ≠ 2) {s : Int} (hs : s ≠ x.sl) : (m.handle { x with sl := s }).2.2 = 2 := takes_seal h1 h2 hs
theorem good_few {v : Int} {b : Nat} {s0 s1 s2 s3 : Int} (hv : 1 ≤ v) (a c : Nat) (h : ∀ j : Nat, j < 4 → j ≠ a → j ≠ c → (if j = 0 then s0 else if j = 1 then s1 else if j = 2 then s2 else s3) ≠ sealOf j 2 v b) : goodB v b s0 s1 s2 s3 = false := by
  have hf : firstB v b s0 s1 s2 s3 = false := by
    unfold firstB
    have : (v == 0) = false := beq_eq_false_iff_ne.2 (by omega)
    rw [this]; rfl
  rw [good_not hf]
  have key : ∀ j s, hit v b j s ≤ 1 := fun j s => by unfold hit; split <;> omega
  have k0 := key 0 s0; have k1 := key 1 s1; have k2 := key 2 s2; have k3 := key 3 s3
  have z : ∀ (j : Nat) (s : Int), s ≠ sealOf j 2 v b → hit v b (j : Int) s = 0 := fun j s hs => hit_no (beq_eq_false_iff_ne.2 hs)
  have z0 : 0 ≠ a → 0 ≠ c → hit v b 0 s0 = 0 := fun h1 h2 => z 0 s0 (h 0 (by omega) h1 h2)
  have z1 : 1 ≠ a → 1 ≠ c → hit v b 1 s1 = 0 := fun h1 h2 => z 1 s1 (h 1 (by omega) h1 h2)
  have z2 : 2 ≠ a → 2 ≠ c → hit v b 2 s2 = 0 := fun h1 h2 => z 2 s2 (h 2 (by omega) h1 h2)
  have z3 : 3 ≠ a → 3 ≠ c → hit v b 3 s3 = 0 := fun h1 h2 => z 3 s3 (h 3 (by omega) h1 h2)
  have : cnt v b s0 s1 s2 s3 4 ≤ 2 := by
    show hit v b 0 s0 + hit v b 1 s1 + hit v b 2 s2 + hit v b 3 s3 ≤ 2
    by_cases a0 : 0 = a
    · by_cases c1 : 1 = c
      · have := z2 (by omega) (by omega); have := z3 (by omega) (by omega); omega
      · by_cases c2 : 2 = c
        · have := z1 (by omega) (by omega); have := z3 (by omega) (by omega); omega
        · have := z1 (by omega) (by omega); have := z2 (by omega) (by omega); omega
    · by_cases c0 : 0 = c
      · by_cases a1 : 1 = a
        · have := z2 (by omega) (by omega); have := z3 (by omega) (by omega); omega
        · by_cases a2 : 2 = a
          · have := z1 (by omega) (by omega); have := z3 (by omega) (by omega); omega
          · have := z1 (by omega) (by omega); have := z2 (by omega) (by omega); omega
      · have h0 := z0 a0 c0
        by_cases a1 : 1 = a
        · by_cases c2 : 2 = c
          · have := z3 (by omega) (by omega); omega
          · have := z2 (by omega) (by omega); omega
        · by_cases c1 : 1 = c
          · by_cases a2 : 2 = a
            · have := z3 (by omega) (by omega); omega
            · have := z2 (by omega) (by omega); omega
          · have := z1 a1 c1; omega
  exact decide_eq_false (by omega)
/-- Too few right seals in its certificate: refused. -/
theorem sealed_just {m : Mem} {x : Msg} (k1 : x.kind = 1) (h1 : (m.takes x).2.2 ≠ 1) (hv : 1 ≤ x.block.just.view) (a c : Nat) (s0 s1 s2 s3 : Int)
    (h : ∀ j : Nat, j < 4 → j ≠ a → j ≠ c → (if j = 0 then s0 else if j = 1 then s1 else if j = 2 then s2 else s3) ≠ sealOf j 2 x.block.just.view x.block.just.block) :
    (m.handle { x with block := ⟨x.block.view, ⟨x.block.just.view, x.block.just.block, s0, s1, s2, s3⟩, x.block.cmd⟩, sl := sealOf x.fro 1 x.view x.block.num }).2.2 = 2 :=
  takes_just (b := ⟨x.block.view, ⟨x.block.just.view, x.block.just.block, s0, s1, s2, s3⟩, x.block.cmd⟩) k1 h1 rfl rfl rfl (good_few hv a c h)
end Go.Proofs.YtkehpnobidendaaDoor

namespace Go.Proofs.YtkehpnobidendaaDoor
open Go.RowKit

/-- One of four. -/
def of4 (a b c d : Int) (j : Nat) : Int := if j = 0 then a else if j = 1 then b else if j = 2 then c else d
theorem box_seal {W : World} {B3 : Nat} {T : TypeId} {xk xf xv bv jv cv k0 k1 k2 k3 sl s0 s1 s2 s3 : Int} {jb nu cb : Nat} {bc : ByteArray} (h : W.heap[B3]? = some (.cells #[.int .i64 xk, .int .i64 xf, .int .i64 xv, .int .i64 bv, .int .i64 jv, .int .u64 jb, .int .u64 s0, .int .u64 s1, .int .u64 s2, .int .u64 s3, .string bc, .int .u64 nu, .int .i64 cv, .int .u64 cb, .int .u64 k0, .int .u64 k1, .int .u64 k2, .int .u64 k3, .int .u64 sl] T (0, 0))) (j : Nat) (hj : j < 4) : W.cell? ⟨B3, 6 + j, none⟩ = some (.int .u64 (of4 s0 s1 s2 s3 j)) ∧ W.frozen? ⟨B3, 6 + j, none⟩ = false := by
  refine ⟨?_, free_at h _⟩
  rw [cell_at h]
  rcases (by omega : j = 0 ∨ j = 1 ∨ j = 2 ∨ j = 3) with rfl | rfl | rfl | rfl <;> rfl
theorem box_put {W : World} {B3 : Nat} {T : TypeId} {xk xf xv bv jv cv k0 k1 k2 k3 sl s0 s1 s2 s3 : Int} {jb nu cb : Nat} {bc : ByteArray} (h : W.heap[B3]? = some (.cells #[.int .i64 xk, .int .i64 xf, .int .i64 xv, .int .i64 bv, .int .i64 jv, .int .u64 jb, .int .u64 s0, .int .u64 s1, .int .u64 s2, .int .u64 s3, .string bc, .int .u64 nu, .int .i64 cv, .int .u64 cb, .int .u64 k0, .int .u64 k1, .int .u64 k2, .int .u64 k3, .int .u64 sl] T (0, 0))) (j : Nat) (hj : j < 4) (v : Int) :
    ∃ r0 r1 r2 r3, (W.setCell ⟨B3, 6 + j, none⟩ (.int .u64 v)).heap[B3]? = some (.cells #[.int .i64 xk, .int .i64 xf, .int .i64 xv, .int .i64 bv, .int .i64 jv, .int .u64 jb, .int .u64 r0, .int .u64 r1, .int .u64 r2, .int .u64 r3, .string bc, .int .u64 nu, .int .i64 cv, .int .u64 cb, .int .u64 k0, .int .u64 k1, .int .u64 k2, .int .u64 k3, .int .u64 sl] T (0, 0)) ∧ of4 r0 r1 r2 r3 j = v ∧ ∀ t, t < 4 → t ≠ j → of4 r0 r1 r2 r3 t = of4 s0 s1 s2 s3 t := by
  have h1 := heap_store (i := 6 + j) h (.int .u64 v)
  rcases (by omega : j = 0 ∨ j = 1 ∨ j = 2 ∨ j = 3) with rfl | rfl | rfl | rfl
  · exact ⟨v, s1, s2, s3, h1, rfl, fun t ht hn => by rcases (by omega : t = 1 ∨ t = 2 ∨ t = 3) with rfl | rfl | rfl <;> rfl⟩
  · exact ⟨s0, v, s2, s3, h1, rfl, fun t ht hn => by rcases (by omega : t = 0 ∨ t = 2 ∨ t = 3) with rfl | rfl | rfl <;> rfl⟩
  · exact ⟨s0, s1, v, s3, h1, rfl, fun t ht hn => by rcases (by omega : t = 0 ∨ t = 1 ∨ t = 3) with rfl | rfl | rfl <;> rfl⟩
  · exact ⟨s0, s1, s2, v, h1, rfl, fun t ht hn => by rcases (by omega : t = 0 ∨ t = 1 ∨ t = 2) with rfl | rfl | rfl <;> rfl⟩
noncomputable def kslB2 : Code := ((Tryd.f8.body.map loopsOf).getD []).getD 1 .skip
noncomputable def kslB3 : Code := ((Tryd.f8.body.map loopsOf).getD []).getD 2 .skip
set_option maxRecDepth 1000000 in
set_option maxHeartbeats 8000000 in
theorem ksl_loop2 {y1 y3 y4 y5 y6 y7 y8 y9 y10 y11 y12 y13 y14 y15 y16 y17 y18 y19 y20 y23 y24 y25 y26 y27 y28 y29 y30 y31 y32 y33 y34 y35 y36 y37 y38 y39 y40 y41 y42 y43 y44 y45 y46 y47 y48 y49 y50 y51 y52 y53 y54 y55 y56 y57 y58 y59 y60 y61 y62 y63 y64 y65 y66 y67 y68 y69 y70 y71 y72 y73 y74 y75 y76 y77 y78 y79 y80 y81 y82 y83 y84 y85 y86 y87 y88 y89 y90 y91 y92 y93 y94 y95 y96 y97 y98 y99 y100 y101 y102 y103 y104 y105 y106 y107 y108 y109 y110 y111 y112 y113 y114 y115 y116 y117 y118 y119 y120 y121 y122 y123 y124 y125 y126 y127 y128 y129 y130 y131 y132 y133 y134 y135 y136 y137 y138 y139 y140 y141 y142 y143 y144 y145 y146 y147 y148 y149 y150 y151 y152 y153 y154 y155 y156 y157 y158 y159 y160 y161 y162 y163 y164 y165 y166 y167 y168 y169 y170 y171 y172 y173 y174 y175 y176 y177 y178 y179 y180 y181 y182 y183 y184 y185 y186 y187 y188 y189 y190 y191 y192 y193 y194 y195 y196 y197 y198 y199 y200 y201 y202 y203 y204 y205 y206 y207 y208 y209 y210 y211 y212 y213 y214 y215 y216 y217 y218 y219 y220 y221 y222 y223 y224 y225 y226 y227 y228 y229 y230 y231 y232 y233 y234 y235 y236 y237 y238 y239 y240 y241 y242 y243 y244 y245 y246 y247 y248 y249 y250 y251 y252 y253 y254 y255 y256 y257 y258 y259 y260 y261 y262 y263 y264 y265 y266 y267 y268 y269 y270 y271 y272 y273 y274 y275 y276 y277 : Value} {of1 se xk xf xv bv jv j0 j1 j2 j3 cv k0 k1 k2 k3 sl : Int} {jb nu cb B3 : Nat} {bc : ByteArray} {V : World} {Q : Exit → Act → World → Prop}
    (hwq : IntKind.i64.wrap (se.tdiv 4) = se.tdiv 4) (HPG : Hid (∀ (c : Int) (W : World), (c = se ∨ c = se.tdiv 4) → Calls Tryd.prog 13 #[.int .i64 c, .int .i64 4] W fun e w' => e = .returned (.int .i64 (pickN c 4)) ∧ W = w'))
    (HXV : Hid (V.heap[B3]? = some (.cells #[.int .i64 xk, .int .i64 xf, .int .i64 xv, .int .i64 bv, .int .i64 jv, .int .u64 jb, .int .u64 j0, .int .u64 j1, .int .u64 j2, .int .u64 j3, .string bc, .int .u64 nu, .int .i64 cv, .int .u64 cb, .int .u64 k0, .int .u64 k1, .int .u64 k2, .int .u64 k3, .int .u64 sl] 40 (0, 0))))
    (HEX : Hid (∀ {v22 v139 v140 v141 v142 v143 v144 v145 v146 v147 v148 v149 v150 v151 v152 v153 v154 v155 v156 v157 v158 v159 v160 v161 v162 v163 v164 v165 v166 v167 : Value} {w' : World} {s0 s1 s2 s3 : Int}, w'.heap[B3]? = some (.cells #[.int .i64 xk, .int .i64 xf, .int .i64 xv, .int .i64 bv, .int .i64 jv, .int .u64 jb, .int .u64 s0, .int .u64 s1, .int .u64 s2, .int .u64 s3, .string bc, .int .u64 nu, .int .i64 cv, .int .u64 cb, .int .u64 k0, .int .u64 k1, .int .u64 k2, .int .u64 k3, .int .u64 sl] 40 (0, 0)) → Fr (fun b => b = B3) V w' → Q (.exit 2) ⟨List.toArray (.int .u64 of1 :: y1 :: .int .i64 se :: y3 :: y4 :: y5 :: y6 :: y7 :: y8 :: y9 :: y10 :: y11 :: y12 :: y13 :: y14 :: y15 :: y16 :: y17 :: y18 :: y19 :: y20 :: .pointer (some ⟨B3, 0, none⟩) :: v22 :: y23 :: y24 :: y25 :: y26 :: y27 :: y28 :: y29 :: y30 :: y31 :: y32 :: y33 :: y34 :: y35 :: y36 :: y37 :: y38 :: y39 :: y40 :: y41 :: y42 :: y43 :: y44 :: y45 :: y46 :: y47 :: y48 :: y49 :: y50 :: y51 :: y52 :: y53 :: y54 :: y55 :: y56 :: y57 :: y58 :: y59 :: y60 :: y61 :: y62 :: y63 :: y64 :: y65 :: y66 :: y67 :: y68 :: y69 :: y70 :: y71 :: y72 :: y73 :: y74 :: y75 :: y76 :: y77 :: y78 :: y79 :: y80 :: y81 :: y82 :: y83 :: y84 :: y85 :: y86 :: y87 :: y88 :: y89 :: y90 :: y91 :: y92 :: y93 :: y94 :: y95 :: y96 :: y97 :: y98 :: y99 :: y100 :: y101 :: y102 :: y103 :: y104 :: y105 :: y106 :: y107 :: y108 :: y109 :: y110 :: y111 :: y112 :: y113 :: y114 :: y115 :: y116 :: y117 :: y118 :: y119 :: y120 :: y121 :: y122 :: y123 :: y124 :: y125 :: y126 :: y127 :: y128 :: y129 :: y130 :: y131 :: y132 :: y133 :: y134 :: y135 :: y136 :: y137 :: y138 :: v139 :: v140 :: v141 :: v142 :: v143 :: v144 :: v145 :: v146 :: v147 :: v148 :: v149 :: v150 :: v151 :: v152 :: v153 :: v154 :: v155 :: v156 :: v157 :: v158 :: v159 :: v160 :: v161 :: v162 :: v163 :: v164 :: v165 :: v166 :: v167 :: y168 :: y169 :: y170 :: y171 :: y172 :: y173 :: y174 :: y175 :: y176 :: y177 :: y178 :: y179 :: y180 :: y181 :: y182 :: y183 :: y184 :: y185 :: y186 :: y187 :: y188 :: y189 :: y190 :: y191 :: y192 :: y193 :: y194 :: y195 :: y196 :: y197 :: y198 :: y199 :: y200 :: y201 :: y202 :: y203 :: y204 :: y205 :: y206 :: y207 :: y208 :: y209 :: y210 :: y211 :: y212 :: y213 :: y214 :: y215 :: y216 :: y217 :: y218 :: y219 :: y220 :: y221 :: y222 :: y223 :: y224 :: y225 :: y226 :: y227 :: y228 :: y229 :: y230 :: y231 :: y232 :: y233 :: y234 :: y235 :: y236 :: y237 :: y238 :: y239 :: y240 :: y241 :: y242 :: y243 :: y244 :: y245 :: y246 :: y247 :: y248 :: y249 :: y250 :: y251 :: y252 :: y253 :: y254 :: y255 :: y256 :: y257 :: y258 :: y259 :: y260 :: y261 :: y262 :: y263 :: y264 :: y265 :: y266 :: y267 :: y268 :: y269 :: y270 :: y271 :: y272 :: y273 :: y274 :: y275 :: y276 :: y277 :: []), []⟩ w')) :
    Code.wp Tryd.prog (Code.loop kslB2) Q ⟨List.toArray (.int .u64 of1 :: y1 :: .int .i64 se :: y3 :: y4 :: y5 :: y6 :: y7 :: y8 :: y9 :: y10 :: y11 :: y12 :: y13 :: y14 :: y15 :: y16 :: y17 :: y18 :: y19 :: y20 :: .pointer (some ⟨B3, 0, none⟩) :: .int .i64 0 :: y23 :: y24 :: y25 :: y26 :: y27 :: y28 :: y29 :: y30 :: y31 :: y32 :: y33 :: y34 :: y35 :: y36 :: y37 :: y38 :: y39 :: y40 :: y41 :: y42 :: y43 :: y44 :: y45 :: y46 :: y47 :: y48 :: y49 :: y50 :: y51 :: y52 :: y53 :: y54 :: y55 :: y56 :: y57 :: y58 :: y59 :: y60 :: y61 :: y62 :: y63 :: y64 :: y65 :: y66 :: y67 :: y68 :: y69 :: y70 :: y71 :: y72 :: y73 :: y74 :: y75 :: y76 :: y77 :: y78 :: y79 :: y80 :: y81 :: y82 :: y83 :: y84 :: y85 :: y86 :: y87 :: y88 :: y89 :: y90 :: y91 :: y92 :: y93 :: y94 :: y95 :: y96 :: y97 :: y98 :: y99 :: y100 :: y101 :: y102 :: y103 :: y104 :: y105 :: y106 :: y107 :: y108 :: y109 :: y110 :: y111 :: y112 :: y113 :: y114 :: y115 :: y116 :: y117 :: y118 :: y119 :: y120 :: y121 :: y122 :: y123 :: y124 :: y125 :: y126 :: y127 :: y128 :: y129 :: y130 :: y131 :: y132 :: y133 :: y134 :: y135 :: y136 :: y137 :: y138 :: y139 :: y140 :: y141 :: y142 :: y143 :: y144 :: y145 :: y146 :: y147 :: y148 :: y149 :: y150 :: y151 :: y152 :: y153 :: y154 :: y155 :: y156 :: y157 :: y158 :: y159 :: y160 :: y161 :: y162 :: y163 :: y164 :: y165 :: y166 :: y167 :: y168 :: y169 :: y170 :: y171 :: y172 :: y173 :: y174 :: y175 :: y176 :: y177 :: y178 :: y179 :: y180 :: y181 :: y182 :: y183 :: y184 :: y185 :: y186 :: y187 :: y188 :: y189 :: y190 :: y191 :: y192 :: y193 :: y194 :: y195 :: y196 :: y197 :: y198 :: y199 :: y200 :: y201 :: y202 :: y203 :: y204 :: y205 :: y206 :: y207 :: y208 :: y209 :: y210 :: y211 :: y212 :: y213 :: y214 :: y215 :: y216 :: y217 :: y218 :: y219 :: y220 :: y221 :: y222 :: y223 :: y224 :: y225 :: y226 :: y227 :: y228 :: y229 :: y230 :: y231 :: y232 :: y233 :: y234 :: y235 :: y236 :: y237 :: y238 :: y239 :: y240 :: y241 :: y242 :: y243 :: y244 :: y245 :: y246 :: y247 :: y248 :: y249 :: y250 :: y251 :: y252 :: y253 :: y254 :: y255 :: y256 :: y257 :: y258 :: y259 :: y260 :: y261 :: y262 :: y263 :: y264 :: y265 :: y266 :: y267 :: y268 :: y269 :: y270 :: y271 :: y272 :: y273 :: y274 :: y275 :: y276 :: y277 :: []), []⟩ V := by
  conv => arg 2; arg 1; whnf
  go_loopw [22] (fun ii w' => ∃ (j : Nat) (s0 s1 s2 s3 : Int), j ≤ 4 ∧ ii = .int .i64 j ∧ Hid (w'.heap[B3]? = some (.cells #[.int .i64 xk, .int .i64 xf, .int .i64 xv, .int .i64 bv, .int .i64 jv, .int .u64 jb, .int .u64 s0, .int .u64 s1, .int .u64 s2, .int .u64 s3, .string bc, .int .u64 nu, .int .i64 cv, .int .u64 cb, .int .u64 k0, .int .u64 k1, .int .u64 k2, .int .u64 k3, .int .u64 sl] 40 (0, 0)) ∧ Fr (fun b => b = B3) V w')) (fun ii _ => 4 - (intOf ii).toNat)
  case atStart => exact ⟨0, j0, j1, j2, j3, by omega, rfl, HXV.out, Fr.refl _ _⟩
  case round =>
    obtain ⟨j, s0, s1, s2, s3, hj, rfl, hB⟩ := hrel
    have hj0 : (0 : Int) ≤ (j : Int) := by omega
    by_cases hj4 : j < 4
    · have hjI : (j : Int) < 4 := by omega
      obtain ⟨c1, c2⟩ := box_seal hB.out.1 j hj4
      generalize of4 s0 s1 s2 s3 j = sj at c1
      cases hA : ((j : Int) != ((pickN se 4 : Nat) : Int)) with
      | false =>
        go_wp2_with (go_at_call 13; refine (HPG.out _ _ (by first | exact .inl rfl | exact .inr rfl)).mono ?_; rintro e w9 ⟨rfl, rfl⟩)
        go_roundw
        case rel => exact ⟨j + 1, s0, s1, s2, s3, by omega, by go_num, hB.out⟩
        case measure => simp [intOf]; omega
      | true =>
        cases hC : ((j : Int) != ((pickN (se.tdiv 4) 4 : Nat) : Int)) with
        | false =>
          go_wp2_with (go_at_call 13; refine (HPG.out _ _ (by first | exact .inl rfl | exact .inr rfl)).mono ?_; rintro e w9 ⟨rfl, rfl⟩)
          go_roundw
          case rel => exact ⟨j + 1, s0, s1, s2, s3, by omega, by go_num, hB.out⟩
          case measure => simp [intOf]; omega
        | true =>
          go_wp2_with (go_at_call 13; refine (HPG.out _ _ (by first | exact .inl rfl | exact .inr rfl)).mono ?_; rintro e w9 ⟨rfl, rfl⟩)
          go_roundw
          case rel =>
            obtain ⟨r0, r1, r2, r3, z1, _, _⟩ := box_put hB.out.1 j hj4 (bits BinOp.or IntKind.u64 (bits BinOp.xor IntKind.u64 sj of1) 1099511627776)
            exact ⟨j + 1, r0, r1, r2, r3, by omega, by go_num, z1, hB.out.2.trans (Fr.setCell (S := fun b => b = B3) _ (a := ⟨B3, 6 + j, none⟩) rfl _) (fun _ h => .inl h)⟩
          case measure => simp [intOf]; omega
    · have hjI : ¬ (j : Int) < 4 := by omega
      go_wp2
      exact HEX.out hB.out.1 hB.out.2
set_option maxRecDepth 1000000 in
set_option maxHeartbeats 8000000 in
theorem ksl_loop3 {y0 y1 y3 y4 y5 y6 y7 y8 y9 y10 y11 y12 y13 y14 y15 y16 y17 y18 y19 y20 y22 y24 y25 y26 y27 y28 y29 y30 y31 y32 y33 y34 y35 y36 y37 y38 y39 y40 y41 y42 y43 y44 y45 y46 y47 y48 y49 y50 y51 y52 y53 y54 y55 y56 y57 y58 y59 y60 y61 y62 y63 y64 y65 y66 y67 y68 y69 y70 y71 y72 y73 y74 y75 y76 y77 y78 y79 y80 y81 y82 y83 y84 y85 y86 y87 y88 y89 y90 y91 y92 y93 y94 y95 y96 y97 y98 y99 y100 y101 y102 y103 y104 y105 y106 y107 y108 y109 y110 y111 y112 y113 y114 y115 y116 y117 y118 y119 y120 y121 y122 y123 y124 y125 y126 y127 y128 y129 y130 y131 y132 y133 y134 y135 y136 y137 y138 y139 y140 y141 y142 y143 y144 y145 y146 y147 y148 y149 y150 y151 y152 y153 y154 y155 y156 y157 y158 y159 y160 y161 y162 y163 y164 y165 y166 y167 y168 y169 y170 y171 y172 y173 y174 y175 y176 y177 y178 y179 y180 y181 y182 y183 y184 y185 y186 y187 y188 y189 y190 y191 y192 y193 y194 y195 y196 y197 y198 y199 y200 y201 y202 y203 y204 y205 y206 y207 y208 y209 y210 y211 y212 y213 y214 y215 y216 y217 y218 y219 y220 y221 y222 y223 y224 y225 y226 y227 y228 y229 y230 y231 y232 y233 y234 y235 y236 y237 y238 y239 y240 y241 y242 y243 y244 y245 y246 y247 y248 y249 y250 y251 y252 y253 y254 y255 y256 y257 y258 y259 y260 y261 y262 y263 y264 y265 y266 y267 y268 y269 y270 y271 y272 y273 y274 y275 y276 y277 : Value} {se xk xf xv bv jv j0 j1 j2 j3 cv k0 k1 k2 k3 sl : Int} {jb nu cb B3 : Nat} {bc : ByteArray} {V : World} {Q : Exit → Act → World → Prop}
    (hwq : IntKind.i64.wrap (se.tdiv 4) = se.tdiv 4) (HPG : Hid (∀ (c : Int) (W : World), (c = se ∨ c = se.tdiv 4) → Calls Tryd.prog 13 #[.int .i64 c, .int .i64 4] W fun e w' => e = .returned (.int .i64 (pickN c 4)) ∧ W = w'))
    (HTB : Hid (∀ W, Fr (fun b => b = B3) V W → Tab W)) (HJO : Hid (-9223372036854775808 ≤ jv ∧ jv ≤ 9223372036854775807 ∧ jb < 18446744073709551616)) (HNZ : Hid (∀ j : Nat, j < 4 → sealOf j 2 jv jb ≠ 0))
    (HXV : Hid (V.heap[B3]? = some (.cells #[.int .i64 xk, .int .i64 xf, .int .i64 xv, .int .i64 bv, .int .i64 jv, .int .u64 jb, .int .u64 j0, .int .u64 j1, .int .u64 j2, .int .u64 j3, .string bc, .int .u64 nu, .int .i64 cv, .int .u64 cb, .int .u64 k0, .int .u64 k1, .int .u64 k2, .int .u64 k3, .int .u64 sl] 40 (0, 0))))
    (HEX : Hid (∀ {v23 v168 v169 v170 v171 v172 v173 v174 v175 v176 v177 v178 v179 v180 v181 v182 v183 v184 v185 v186 v187 v188 v189 v190 v191 v192 v193 v194 v195 v196 v197 v198 v199 v200 v201 v202 v203 v204 v205 v206 : Value} {w' : World} {s0 s1 s2 s3 : Int}, w'.heap[B3]? = some (.cells #[.int .i64 xk, .int .i64 xf, .int .i64 xv, .int .i64 bv, .int .i64 jv, .int .u64 jb, .int .u64 s0, .int .u64 s1, .int .u64 s2, .int .u64 s3, .string bc, .int .u64 nu, .int .i64 cv, .int .u64 cb, .int .u64 k0, .int .u64 k1, .int .u64 k2, .int .u64 k3, .int .u64 sl] 40 (0, 0)) → Fr (fun b => b = B3) V w' → (∀ t : Nat, t < 4 → t ≠ pickN se 4 → t ≠ pickN (se.tdiv 4) 4 → of4 s0 s1 s2 s3 t ≠ sealOf t 2 jv jb) → Q (.exit 4) ⟨List.toArray (y0 :: y1 :: .int .i64 se :: y3 :: y4 :: y5 :: y6 :: y7 :: y8 :: y9 :: y10 :: y11 :: y12 :: y13 :: y14 :: y15 :: y16 :: y17 :: y18 :: y19 :: y20 :: .pointer (some ⟨B3, 0, none⟩) :: y22 :: v23 :: y24 :: y25 :: y26 :: y27 :: y28 :: y29 :: y30 :: y31 :: y32 :: y33 :: y34 :: y35 :: y36 :: y37 :: y38 :: y39 :: y40 :: y41 :: y42 :: y43 :: y44 :: y45 :: y46 :: y47 :: y48 :: y49 :: y50 :: y51 :: y52 :: y53 :: y54 :: y55 :: y56 :: y57 :: y58 :: y59 :: y60 :: y61 :: y62 :: y63 :: y64 :: y65 :: y66 :: y67 :: y68 :: y69 :: y70 :: y71 :: y72 :: y73 :: y74 :: y75 :: y76 :: y77 :: y78 :: y79 :: y80 :: y81 :: y82 :: y83 :: y84 :: y85 :: y86 :: y87 :: y88 :: y89 :: y90 :: y91 :: y92 :: y93 :: y94 :: y95 :: y96 :: y97 :: y98 :: y99 :: y100 :: y101 :: y102 :: y103 :: y104 :: y105 :: y106 :: y107 :: y108 :: y109 :: y110 :: y111 :: y112 :: y113 :: y114 :: y115 :: y116 :: y117 :: y118 :: y119 :: y120 :: y121 :: y122 :: y123 :: y124 :: y125 :: y126 :: y127 :: y128 :: y129 :: y130 :: y131 :: y132 :: y133 :: y134 :: y135 :: y136 :: y137 :: y138 :: y139 :: y140 :: y141 :: y142 :: y143 :: y144 :: y145 :: y146 :: y147 :: y148 :: y149 :: y150 :: y151 :: y152 :: y153 :: y154 :: y155 :: y156 :: y157 :: y158 :: y159 :: y160 :: y161 :: y162 :: y163 :: y164 :: y165 :: y166 :: y167 :: v168 :: v169 :: v170 :: v171 :: v172 :: v173 :: v174 :: v175 :: v176 :: v177 :: v178 :: v179 :: v180 :: v181 :: v182 :: v183 :: v184 :: v185 :: v186 :: v187 :: v188 :: v189 :: v190 :: v191 :: v192 :: v193 :: v194 :: v195 :: v196 :: v197 :: v198 :: v199 :: v200 :: v201 :: v202 :: v203 :: v204 :: v205 :: v206 :: y207 :: y208 :: y209 :: y210 :: y211 :: y212 :: y213 :: y214 :: y215 :: y216 :: y217 :: y218 :: y219 :: y220 :: y221 :: y222 :: y223 :: y224 :: y225 :: y226 :: y227 :: y228 :: y229 :: y230 :: y231 :: y232 :: y233 :: y234 :: y235 :: y236 :: y237 :: y238 :: y239 :: y240 :: y241 :: y242 :: y243 :: y244 :: y245 :: y246 :: y247 :: y248 :: y249 :: y250 :: y251 :: y252 :: y253 :: y254 :: y255 :: y256 :: y257 :: y258 :: y259 :: y260 :: y261 :: y262 :: y263 :: y264 :: y265 :: y266 :: y267 :: y268 :: y269 :: y270 :: y271 :: y272 :: y273 :: y274 :: y275 :: y276 :: y277 :: []), []⟩ w')) :
    Code.wp Tryd.prog (Code.loop kslB3) Q ⟨List.toArray (y0 :: y1 :: .int .i64 se :: y3 :: y4 :: y5 :: y6 :: y7 :: y8 :: y9 :: y10 :: y11 :: y12 :: y13 :: y14 :: y15 :: y16 :: y17 :: y18 :: y19 :: y20 :: .pointer (some ⟨B3, 0, none⟩) :: y22 :: .int .i64 0 :: y24 :: y25 :: y26 :: y27 :: y28 :: y29 :: y30 :: y31 :: y32 :: y33 :: y34 :: y35 :: y36 :: y37 :: y38 :: y39 :: y40 :: y41 :: y42 :: y43 :: y44 :: y45 :: y46 :: y47 :: y48 :: y49 :: y50 :: y51 :: y52 :: y53 :: y54 :: y55 :: y56 :: y57 :: y58 :: y59 :: y60 :: y61 :: y62 :: y63 :: y64 :: y65 :: y66 :: y67 :: y68 :: y69 :: y70 :: y71 :: y72 :: y73 :: y74 :: y75 :: y76 :: y77 :: y78 :: y79 :: y80 :: y81 :: y82 :: y83 :: y84 :: y85 :: y86 :: y87 :: y88 :: y89 :: y90 :: y91 :: y92 :: y93 :: y94 :: y95 :: y96 :: y97 :: y98 :: y99 :: y100 :: y101 :: y102 :: y103 :: y104 :: y105 :: y106 :: y107 :: y108 :: y109 :: y110 :: y111 :: y112 :: y113 :: y114 :: y115 :: y116 :: y117 :: y118 :: y119 :: y120 :: y121 :: y122 :: y123 :: y124 :: y125 :: y126 :: y127 :: y128 :: y129 :: y130 :: y131 :: y132 :: y133 :: y134 :: y135 :: y136 :: y137 :: y138 :: y139 :: y140 :: y141 :: y142 :: y143 :: y144 :: y145 :: y146 :: y147 :: y148 :: y149 :: y150 :: y151 :: y152 :: y153 :: y154 :: y155 :: y156 :: y157 :: y158 :: y159 :: y160 :: y161 :: y162 :: y163 :: y164 :: y165 :: y166 :: y167 :: y168 :: y169 :: y170 :: y171 :: y172 :: y173 :: y174 :: y175 :: y176 :: y177 :: y178 :: y179 :: y180 :: y181 :: y182 :: y183 :: y184 :: y185 :: y186 :: y187 :: y188 :: y189 :: y190 :: y191 :: y192 :: y193 :: y194 :: y195 :: y196 :: y197 :: y198 :: y199 :: y200 :: y201 :: y202 :: y203 :: y204 :: y205 :: y206 :: y207 :: y208 :: y209 :: y210 :: y211 :: y212 :: y213 :: y214 :: y215 :: y216 :: y217 :: y218 :: y219 :: y220 :: y221 :: y222 :: y223 :: y224 :: y225 :: y226 :: y227 :: y228 :: y229 :: y230 :: y231 :: y232 :: y233 :: y234 :: y235 :: y236 :: y237 :: y238 :: y239 :: y240 :: y241 :: y242 :: y243 :: y244 :: y245 :: y246 :: y247 :: y248 :: y249 :: y250 :: y251 :: y252 :: y253 :: y254 :: y255 :: y256 :: y257 :: y258 :: y259 :: y260 :: y261 :: y262 :: y263 :: y264 :: y265 :: y266 :: y267 :: y268 :: y269 :: y270 :: y271 :: y272 :: y273 :: y274 :: y275 :: y276 :: y277 :: []), []⟩ V := by
  conv => arg 2; arg 1; whnf
  go_loopw [23] (fun ii w' => ∃ (j : Nat) (s0 s1 s2 s3 : Int), j ≤ 4 ∧ ii = .int .i64 j ∧ Hid (w'.heap[B3]? = some (.cells #[.int .i64 xk, .int .i64 xf, .int .i64 xv, .int .i64 bv, .int .i64 jv, .int .u64 jb, .int .u64 s0, .int .u64 s1, .int .u64 s2, .int .u64 s3, .string bc, .int .u64 nu, .int .i64 cv, .int .u64 cb, .int .u64 k0, .int .u64 k1, .int .u64 k2, .int .u64 k3, .int .u64 sl] 40 (0, 0)) ∧ Fr (fun b => b = B3) V w') ∧ Hid (∀ t : Nat, t < j → t ≠ pickN se 4 → t ≠ pickN (se.tdiv 4) 4 → of4 s0 s1 s2 s3 t ≠ sealOf t 2 jv jb)) (fun ii _ => 4 - (intOf ii).toNat)
  case atStart => exact ⟨0, j0, j1, j2, j3, by omega, rfl, ⟨HXV.out, Fr.refl _ _⟩, fun t ht => by omega⟩
  case round =>
    obtain ⟨j, s0, s1, s2, s3, hj, rfl, hB, hR⟩ := hrel
    have hj0 : (0 : Int) ≤ (j : Int) := by omega
    by_cases hj4 : j < 4
    rotate_left
    · have hjI : ¬ (j : Int) < 4 := by omega
      have hje : j = 4 := by omega
      subst hje
      go_wp2
      exact HEX.out hB.out.1 hB.out.2 hR.out
    · have hjI : (j : Int) < 4 := by omega
      have hlb : B3 < wr.heap.size := lt_at hB.out.1
      have HCL : Hid (∀ c : Cls wr, c.w.heap[B3]? = some (.cells #[.int .i64 xk, .int .i64 xf, .int .i64 xv, .int .i64 bv, .int .i64 jv, .int .u64 jb, .int .u64 s0, .int .u64 s1, .int .u64 s2, .int .u64 s3, .string bc, .int .u64 nu, .int .i64 cv, .int .u64 cb, .int .u64 k0, .int .u64 k1, .int .u64 k2, .int .u64 k3, .int .u64 sl] 40 (0, 0))) := fun c => (c.b.block B3 hlb).trans hB.out.1
      have e4 : ∀ c : Cls wr, c.w.cell? ⟨B3, 4, none⟩ = some (.int .i64 jv) := fun c => cell_at (HCL.out c) 4
      have e5 : ∀ c : Cls wr, c.w.cell? ⟨B3, 5, none⟩ = some (.int .u64 jb) := fun c => cell_at (HCL.out c) 5
      have e6 : ∀ c : Cls wr, c.w.cell? ⟨B3, 6 + j, none⟩ = some (.int .u64 (of4 s0 s1 s2 s3 j)) := fun c => (box_seal (HCL.out c) j hj4).1
      have HQ : Hid (∀ c : Cls wr, Calls Tryd.prog 11 #[.int .i64 j, .int .i64 2, .int .i64 jv, .int .u64 jb] c.w fun e w' => e = .returned (.int .u64 (sealOf j 2 jv jb)) ∧ Below c.w.heap.size c.w w') := fun c => pseal j 2 jv jb (by omega) (by omega) (by decide) (by decide) HJO.out.1 HJO.out.2.1 HJO.out.2.2 c.w (HTB.out c.w (hB.out.2.trans (Fr.of_below c.b) (fun _ h => .inl h))).is
      have HQP : Hid (∀ (k : Int) (c : Cls wr), (k = se ∨ k = se.tdiv 4) → Calls Tryd.prog 13 #[.int .i64 k, .int .i64 4] c.w fun e w' => e = .returned (.int .i64 (pickN k 4)) ∧ w' = c.w) := fun k c hk => (HPG.out k c.w hk).mono (fun _ _ h => ⟨h.1, h.2.symm⟩)
      have HSJ : Hid (of4 s0 s1 s2 s3 j = of4 s0 s1 s2 s3 j) := rfl
      generalize hsj : of4 s0 s1 s2 s3 j = sj at e6
      have HSE : Hid (of4 s0 s1 s2 s3 j = sj) := hsj
      have HNJ : Hid (sealOf j 2 jv jb ≠ 0) := HNZ.out j hj4
      generalize hsr : sealOf j 2 jv jb = sr at HQ HNJ
      have HSR : Hid (sealOf j 2 jv jb = sr) := hsr
      clear hsj hsr HSJ
      have HKEEP : Hid (∀ W5, Below wr.heap.size wr W5 → (j ≠ pickN se 4 → j ≠ pickN (se.tdiv 4) 4 → sj ≠ sr) → ∃ r0 r1 r2 r3, (W5.heap[B3]? = some (.cells #[.int .i64 xk, .int .i64 xf, .int .i64 xv, .int .i64 bv, .int .i64 jv, .int .u64 jb, .int .u64 r0, .int .u64 r1, .int .u64 r2, .int .u64 r3, .string bc, .int .u64 nu, .int .i64 cv, .int .u64 cb, .int .u64 k0, .int .u64 k1, .int .u64 k2, .int .u64 k3, .int .u64 sl] 40 (0, 0)) ∧ Fr (fun b => b = B3) V W5) ∧ ∀ t : Nat, t < j + 1 → t ≠ pickN se 4 → t ≠ pickN (se.tdiv 4) 4 → of4 r0 r1 r2 r3 t ≠ sealOf t 2 jv jb) := fun W5 hb hn => by
        refine ⟨s0, s1, s2, s3, ⟨(hb.block B3 hlb).trans hB.out.1, hB.out.2.trans (Fr.of_below hb) (fun _ h => .inl h)⟩, fun t ht h1 h2 => ?_⟩
        by_cases htj : t < j
        · exact hR.out t htj h1 h2
        · have e : t = j := by omega
          subst e
          rw [HSE.out, HSR.out]; exact hn h1 h2
      have HPUT : Hid (∀ W5, Below wr.heap.size wr W5 → ∃ r0 r1 r2 r3, ((W5.setCell ⟨B3, 6 + j, none⟩ (.int .u64 0)).heap[B3]? = some (.cells #[.int .i64 xk, .int .i64 xf, .int .i64 xv, .int .i64 bv, .int .i64 jv, .int .u64 jb, .int .u64 r0, .int .u64 r1, .int .u64 r2, .int .u64 r3, .string bc, .int .u64 nu, .int .i64 cv, .int .u64 cb, .int .u64 k0, .int .u64 k1, .int .u64 k2, .int .u64 k3, .int .u64 sl] 40 (0, 0)) ∧ Fr (fun b => b = B3) V (W5.setCell ⟨B3, 6 + j, none⟩ (.int .u64 0))) ∧ ∀ t : Nat, t < j + 1 → t ≠ pickN se 4 → t ≠ pickN (se.tdiv 4) 4 → of4 r0 r1 r2 r3 t ≠ sealOf t 2 jv jb) := fun W5 hb => by
        obtain ⟨r0, r1, r2, r3, z1, z2, z3⟩ := box_put ((hb.block B3 hlb).trans hB.out.1) j hj4 0
        refine ⟨r0, r1, r2, r3, ⟨z1, (hB.out.2.trans (Fr.of_below hb) (fun _ h => .inl h)).trans (Fr.setCell (S := fun b => b = B3) _ (a := ⟨B3, 6 + j, none⟩) rfl _) (fun _ h => .inl h)⟩, fun t ht h1 h2 => ?_⟩
        by_cases htj : t < j
        · rw [z3 t (by omega) (by omega)]; exact hR.out t htj h1 h2
        · have e : t = j := by omega
          subst e
          rw [z2, HSR.out]; exact fun h => HNJ.out h.symm
      have HFZ : Hid (∀ W5, Below wr.heap.size wr W5 → W5.cell? ⟨B3, 6 + j, none⟩ = some (.int .u64 sj) ∧ W5.frozen? ⟨B3, 6 + j, none⟩ = false) := fun W5 hb => by
        have := box_seal ((hb.block B3 hlb).trans hB.out.1) j hj4
        rw [HSE.out] at this
        exact this
      have jx : ∀ z : Nat, ((j : Int) != (z : Int)) = false → j = z := fun z h => by have := bne_eq_false_iff_eq.1 h; omega
      have HJX : Hid (∀ z : Nat, ((j : Int) != (z : Int)) = false → j = z) := jx
      clear jx hB hR
      cases hE : (sj == sr) with
      | false =>
        have HNE : Hid (sj ≠ sr) := beq_eq_false_iff_ne.1 hE
        go_upto_region 35 with fail
        refine wp_region_cls wr (Below.refl _ _) (by kernel_rfl) (by kernel_rfl) ?_
        repeat (go_big_quiet_step (first | (go_at_call 11; exact Calls.cls (HQ.out _)) | (go_at_call 13; exact Calls.cls_same (HQP.out _ _ (by first | exact .inl rfl | exact .inr rfl)))))
        refine wpQuiet_nil ?_
        rintro W5 ⟨⟨_, hW5⟩, rfl⟩
        clear e4 e5 e6
        go_wp2
        go_roundw
        case rel =>
          obtain ⟨r0, r1, r2, r3, z1, z2⟩ := HKEEP.out W5 hW5 (fun _ _ => HNE.out)
          exact ⟨j + 1, r0, r1, r2, r3, by omega, by go_num, z1, z2⟩
        case measure => simp [intOf]; omega
      | true =>
        cases hA : ((j : Int) != ((pickN se 4 : Nat) : Int)) with
        | false =>
          go_upto_region 35 with fail
          refine wp_region_cls wr (Below.refl _ _) (by kernel_rfl) (by kernel_rfl) ?_
          repeat (go_big_quiet_step (first | (go_at_call 11; exact Calls.cls (HQ.out _)) | (go_at_call 13; exact Calls.cls_same (HQP.out _ _ (by first | exact .inl rfl | exact .inr rfl)))))
          refine wpQuiet_nil ?_
          rintro W5 ⟨⟨_, hW5⟩, rfl⟩
          clear e4 e5 e6
          go_wp2
          go_roundw
          case rel =>
            obtain ⟨r0, r1, r2, r3, z1, z2⟩ := HKEEP.out W5 hW5 (fun h1 _ => absurd (HJX.out _ hA) h1)
            exact ⟨j + 1, r0, r1, r2, r3, by omega, by go_num, z1, z2⟩
          case measure => simp [intOf]; omega
        | true =>
          cases hC : ((j : Int) != ((pickN (se.tdiv 4) 4 : Nat) : Int)) with
          | false =>
            go_upto_region 35 with fail
            refine wp_region_cls wr (Below.refl _ _) (by kernel_rfl) (by kernel_rfl) ?_
            repeat (go_big_quiet_step (first | (go_at_call 11; exact Calls.cls (HQ.out _)) | (go_at_call 13; exact Calls.cls_same (HQP.out _ _ (by first | exact .inl rfl | exact .inr rfl)))))
            refine wpQuiet_nil ?_
            rintro W5 ⟨⟨_, hW5⟩, rfl⟩
            clear e4 e5 e6
            go_wp2
            go_roundw
            case rel =>
              obtain ⟨r0, r1, r2, r3, z1, z2⟩ := HKEEP.out W5 hW5 (fun _ h2 => absurd (HJX.out _ hC) h2)
              exact ⟨j + 1, r0, r1, r2, r3, by omega, by go_num, z1, z2⟩
            case measure => simp [intOf]; omega
          | true =>
            go_upto_region 35 with fail
            refine wp_region_cls wr (Below.refl _ _) (by kernel_rfl) (by kernel_rfl) ?_
            repeat (go_big_quiet_step (first | (go_at_call 11; exact Calls.cls (HQ.out _)) | (go_at_call 13; exact Calls.cls_same (HQP.out _ _ (by first | exact .inl rfl | exact .inr rfl)))))
            refine wpQuiet_nil ?_
            rintro W5 ⟨⟨_, hW5⟩, rfl⟩
            obtain ⟨q1, q2⟩ := HFZ.out W5 hW5
            clear e4 e5 e6
            go_wp2
            go_roundw
            case rel =>
              obtain ⟨r0, r1, r2, r3, z1, z2⟩ := HPUT.out W5 hW5
              exact ⟨j + 1, r0, r1, r2, r3, by omega, by go_num, z1, z2⟩
            case measure => simp [intOf]; omega
end Go.Proofs.YtkehpnobidendaaDoor

namespace Go.Proofs.YtkehpnobidendaaDoor
open Go.RowKit
theorem put_msgK (a : Addr) (v : Value) : storeVar 40 a v = rowPut 40 a v := rfl
attribute [local go_sem ↓] pload_msg put_msgK load_blk
/-- A new block, written over. -/
def fillA (c : Array Value) : Nat → List Value → Array Value
  | _, [] => c
  | o, v :: r => fillA (c.setIfInBounds o v) (o + 1) r
theorem setCells_new (w : World) (T : TypeId) : ∀ (vs : List Value) (o : Nat) (c : Array Value), (w.alloc (.cells c T)).setCells w.heap.size o vs = w.alloc (.cells (fillA c o vs) T)
  | [], _, _ => rfl
  | v :: r, o, c => by rw [World.setCells, World.setCell_alloc_new, setCells_new w T r (o + 1)]; rfl
theorem fill19 (a0 a1 a2 a3 a4 a5 a6 a7 a8 a9 a10 a11 a12 a13 a14 a15 a16 a17 a18 z0 z1 z2 z3 z4 z5 z6 z7 z8 z9 z10 z11 z12 z13 z14 z15 z16 z17 z18 : Value) : fillA #[z0, z1, z2, z3, z4, z5, z6, z7, z8, z9, z10, z11, z12, z13, z14, z15, z16, z17, z18] 0 [a0, a1, a2, a3, a4, a5, a6, a7, a8, a9, a10, a11, a12, a13, a14, a15, a16, a17, a18] = #[a0, a1, a2, a3, a4, a5, a6, a7, a8, a9, a10, a11, a12, a13, a14, a15, a16, a17, a18] := by kernel_rfl
theorem start19 (w : World) (cs : Array Value) (hc : cs.size = 19) (T : TypeId) : (w.alloc (.cells cs T)).there w.heap.size 0 19 := fun j hj => by
  have hn := heap_alloc_new w (.cells cs T)
  refine ⟨?_, free_at hn _⟩
  rw [cell_at hn]
  simp; omega
theorem below_one {n : Nat} {w V w' : World} {b : Nat} (h : Below n w V) (hf : Fr (fun k => k = b) V w') (hb : n ≤ b) (hn : n ≤ V.heap.size) : Below n w w' :=
  ⟨hf.os.trans h.os, hf.tape.trans h.tape, hf.output.trans h.output, Nat.le_trans h.size hf.size, fun k hk => (hf.block k (Nat.lt_of_lt_of_le hk hn) (fun e => by omega)).trans (h.block k hk)⟩
theorem takes_form {m : Mem} {x : Msg} (k1 : x.kind = 1) (h1 : (m.takes x).2.2 ≠ 1) : 1 ≤ x.view ∧ x.view ≤ 1000 ∧ x.fro = x.view % 4 := by
  unfold Mem.takes at h1
  rw [if_pos k1] at h1
  unfold Mem.proposal at h1
  dsimp only at h1
  split at h1
  · exact absurd rfl h1
  · rename_i hf
    omega
noncomputable def kslI : Code := ((Tryd.f8.body.bind (fromReg 26))).getD .skip
set_option maxRecDepth 1000000 in
set_option maxHeartbeats 8000000 in
theorem ksl_if {y1 y3 y4 y5 y6 y7 y8 y9 y10 y11 y12 y14 y16 y17 y18 y19 y21 y22 y23 y24 y25 y26 y27 y28 y29 y30 y31 y32 y33 y34 y35 y36 y37 y38 y39 y40 y41 y42 y43 y44 y45 y46 y47 y48 y49 y50 y51 y52 y53 y54 y55 y56 y57 y58 y59 y60 y61 y62 y63 y64 y65 y66 y67 y68 y69 y70 y71 y72 y73 y74 y75 y76 y77 y78 y79 y80 y81 y82 y83 y84 y85 y86 y87 y88 y89 y90 y91 y92 y93 y94 y95 y96 y97 y98 y99 y100 y101 y102 y103 y104 y105 y106 y107 y108 y109 y110 y111 y112 y113 y114 y115 y116 y117 y118 y119 y120 y121 y122 y123 y124 y125 y126 y127 y128 y129 y130 y131 y132 y133 y134 y135 y136 y137 y138 y139 y140 y141 y142 y143 y144 y145 y146 y147 y148 y149 y150 y151 y152 y153 y154 y155 y156 y157 y158 y159 y160 y161 y162 y163 y164 y165 y166 y167 y168 y169 y170 y171 y172 y173 y174 y175 y176 y177 y178 y179 y180 y181 y182 y183 y184 y185 y186 y187 y188 y189 y190 y191 y192 y193 y194 y195 y196 y197 y198 y199 y200 y201 y202 y203 y204 y205 y206 y207 y208 y209 y210 y211 y212 y213 y214 y215 y216 y217 y218 y219 y220 y221 y222 y223 y224 y225 y226 y227 y228 y229 y230 y231 y232 y233 y234 y235 y236 y237 y238 y239 y240 y241 y242 y243 y244 y245 y246 y247 y248 y249 y250 y251 y252 y253 y254 y255 y256 y257 y258 y259 y260 y261 y262 y263 y264 y265 y266 y267 y268 y269 y270 y271 y272 y273 y274 y275 y276 y277 : Value} {of1 se xk xf xv bv jv j0 j1 j2 j3 cv k0 k1 k2 k3 sl : Int} {jb nu cb B pm p k : Nat} {bc : ByteArray} {w4 : World} {A4 : Nat → Nat → Prop} {ps : List (Option Nat)} {KK : Clu} {m : Mem} {Q : Exit → Act → World → Prop}
    (hwq : IntKind.i64.wrap (se.tdiv 4) = se.tdiv 4) (HPG : Hid (∀ (c : Int) (W : World), (c = se ∨ c = se.tdiv 4) → Calls Tryd.prog 13 #[.int .i64 c, .int .i64 4] W fun e w' => e = .returned (.int .i64 (pickN c 4)) ∧ W = w'))
    (hlB : (rowVar 40 ⟨B, 1, none⟩).run Tryd.prog w4 = .ok (.agg #[.int .i64 xk, .int .i64 xf, .int .i64 xv, .int .i64 bv, .int .i64 jv, .int .u64 jb, .int .u64 j0, .int .u64 j1, .int .u64 j2, .int .u64 j3, .string bc, .int .u64 nu, .int .i64 cv, .int .u64 cb, .int .u64 k0, .int .u64 k1, .int .u64 k2, .int .u64 k3, .int .u64 sl]) w4)
    (HS4 : Hid (KSit w4 p A4 ps KK)) (HO3 : Hid (KOk KK 300)) (hk4 : k < 4) (HPM : Hid (ps.getD k none = some pm)) (HM : Hid (KK.memAt k = some m ∧ m.may = false))
    (HXO : Hid (Msg.Ok ⟨xk, xf, xv, ⟨bv, ⟨jv, jb, j0, j1, j2, j3⟩, bc⟩, nu, ⟨cv, cb, k0, k1, k2, k3⟩, sl⟩)) (HM5 : Hid ((m.takes ⟨xk, xf, xv, ⟨bv, ⟨jv, jb, j0, j1, j2, j3⟩, bc⟩, nu, ⟨cv, cb, k0, k1, k2, k3⟩, sl⟩).2.2 ≠ 1)) (HK1 : Hid (xk = 1)) (HJV : Hid (1 ≤ jv)) (HNZ : Hid (∀ j : Nat, j < 4 → sealOf j 2 jv jb ≠ 0))
    (HEX : Hid (∀ {v21 v22 v23 v24 v25 v26 v137 v138 v139 v140 v141 v142 v143 v144 v145 v146 v147 v148 v149 v150 v151 v152 v153 v154 v155 v156 v157 v158 v159 v160 v161 v162 v163 v164 v165 v166 v167 v168 v169 v170 v171 v172 v173 v174 v175 v176 v177 v178 v179 v180 v181 v182 v183 v184 v185 v186 v187 v188 v189 v190 v191 v192 v193 v194 v195 v196 v197 v198 v199 v200 v201 v202 v203 v204 v205 v206 v207 v208 v209 v210 v211 v212 v213 v214 v215 v216 v217 v218 v219 v220 v221 v222 v223 v224 v225 v226 v227 v228 v229 v230 v231 v232 : Value} {w' : World}, KGoes w4 w' p A4 ps KK → Q .normal ⟨List.toArray (.int .u64 of1 :: y1 :: .int .i64 se :: y3 :: y4 :: y5 :: y6 :: y7 :: y8 :: y9 :: y10 :: y11 :: y12 :: .pointer (some ⟨B, 0, none⟩) :: y14 :: .pointer (some ⟨pm, 0, none⟩) :: y16 :: y17 :: y18 :: y19 :: .bool false :: v21 :: v22 :: v23 :: v24 :: v25 :: v26 :: y27 :: y28 :: y29 :: y30 :: y31 :: y32 :: y33 :: y34 :: y35 :: y36 :: y37 :: y38 :: y39 :: y40 :: y41 :: y42 :: y43 :: y44 :: y45 :: y46 :: y47 :: y48 :: y49 :: y50 :: y51 :: y52 :: y53 :: y54 :: y55 :: y56 :: y57 :: y58 :: y59 :: y60 :: y61 :: y62 :: y63 :: y64 :: y65 :: y66 :: y67 :: y68 :: y69 :: y70 :: y71 :: y72 :: y73 :: y74 :: y75 :: y76 :: y77 :: y78 :: y79 :: y80 :: y81 :: y82 :: y83 :: y84 :: y85 :: y86 :: y87 :: y88 :: y89 :: y90 :: y91 :: y92 :: y93 :: y94 :: y95 :: y96 :: y97 :: y98 :: y99 :: y100 :: y101 :: y102 :: y103 :: y104 :: y105 :: y106 :: y107 :: y108 :: y109 :: y110 :: y111 :: y112 :: y113 :: y114 :: y115 :: y116 :: y117 :: y118 :: y119 :: y120 :: y121 :: y122 :: y123 :: y124 :: y125 :: y126 :: y127 :: y128 :: y129 :: y130 :: y131 :: y132 :: y133 :: y134 :: y135 :: y136 :: v137 :: v138 :: v139 :: v140 :: v141 :: v142 :: v143 :: v144 :: v145 :: v146 :: v147 :: v148 :: v149 :: v150 :: v151 :: v152 :: v153 :: v154 :: v155 :: v156 :: v157 :: v158 :: v159 :: v160 :: v161 :: v162 :: v163 :: v164 :: v165 :: v166 :: v167 :: v168 :: v169 :: v170 :: v171 :: v172 :: v173 :: v174 :: v175 :: v176 :: v177 :: v178 :: v179 :: v180 :: v181 :: v182 :: v183 :: v184 :: v185 :: v186 :: v187 :: v188 :: v189 :: v190 :: v191 :: v192 :: v193 :: v194 :: v195 :: v196 :: v197 :: v198 :: v199 :: v200 :: v201 :: v202 :: v203 :: v204 :: v205 :: v206 :: v207 :: v208 :: v209 :: v210 :: v211 :: v212 :: v213 :: v214 :: v215 :: v216 :: v217 :: v218 :: v219 :: v220 :: v221 :: v222 :: v223 :: v224 :: v225 :: v226 :: v227 :: v228 :: v229 :: v230 :: v231 :: v232 :: y233 :: y234 :: y235 :: y236 :: y237 :: y238 :: y239 :: y240 :: y241 :: y242 :: y243 :: y244 :: y245 :: y246 :: y247 :: y248 :: y249 :: y250 :: y251 :: y252 :: y253 :: y254 :: y255 :: y256 :: y257 :: y258 :: y259 :: y260 :: y261 :: y262 :: y263 :: y264 :: y265 :: y266 :: y267 :: y268 :: y269 :: y270 :: y271 :: y272 :: y273 :: y274 :: y275 :: y276 :: y277 :: []), []⟩ w')) :
    Code.wp Tryd.prog kslI Q ⟨List.toArray (.int .u64 of1 :: y1 :: .int .i64 se :: y3 :: y4 :: y5 :: y6 :: y7 :: y8 :: y9 :: y10 :: y11 :: y12 :: .pointer (some ⟨B, 0, none⟩) :: y14 :: .pointer (some ⟨pm, 0, none⟩) :: y16 :: y17 :: y18 :: y19 :: .bool false :: y21 :: y22 :: y23 :: y24 :: y25 :: y26 :: y27 :: y28 :: y29 :: y30 :: y31 :: y32 :: y33 :: y34 :: y35 :: y36 :: y37 :: y38 :: y39 :: y40 :: y41 :: y42 :: y43 :: y44 :: y45 :: y46 :: y47 :: y48 :: y49 :: y50 :: y51 :: y52 :: y53 :: y54 :: y55 :: y56 :: y57 :: y58 :: y59 :: y60 :: y61 :: y62 :: y63 :: y64 :: y65 :: y66 :: y67 :: y68 :: y69 :: y70 :: y71 :: y72 :: y73 :: y74 :: y75 :: y76 :: y77 :: y78 :: y79 :: y80 :: y81 :: y82 :: y83 :: y84 :: y85 :: y86 :: y87 :: y88 :: y89 :: y90 :: y91 :: y92 :: y93 :: y94 :: y95 :: y96 :: y97 :: y98 :: y99 :: y100 :: y101 :: y102 :: y103 :: y104 :: y105 :: y106 :: y107 :: y108 :: y109 :: y110 :: y111 :: y112 :: y113 :: y114 :: y115 :: y116 :: y117 :: y118 :: y119 :: y120 :: y121 :: y122 :: y123 :: y124 :: y125 :: y126 :: y127 :: y128 :: y129 :: y130 :: y131 :: y132 :: y133 :: y134 :: y135 :: y136 :: y137 :: y138 :: y139 :: y140 :: y141 :: y142 :: y143 :: y144 :: y145 :: y146 :: y147 :: y148 :: y149 :: y150 :: y151 :: y152 :: y153 :: y154 :: y155 :: y156 :: y157 :: y158 :: y159 :: y160 :: y161 :: y162 :: y163 :: y164 :: y165 :: y166 :: y167 :: y168 :: y169 :: y170 :: y171 :: y172 :: y173 :: y174 :: y175 :: y176 :: y177 :: y178 :: y179 :: y180 :: y181 :: y182 :: y183 :: y184 :: y185 :: y186 :: y187 :: y188 :: y189 :: y190 :: y191 :: y192 :: y193 :: y194 :: y195 :: y196 :: y197 :: y198 :: y199 :: y200 :: y201 :: y202 :: y203 :: y204 :: y205 :: y206 :: y207 :: y208 :: y209 :: y210 :: y211 :: y212 :: y213 :: y214 :: y215 :: y216 :: y217 :: y218 :: y219 :: y220 :: y221 :: y222 :: y223 :: y224 :: y225 :: y226 :: y227 :: y228 :: y229 :: y230 :: y231 :: y232 :: y233 :: y234 :: y235 :: y236 :: y237 :: y238 :: y239 :: y240 :: y241 :: y242 :: y243 :: y244 :: y245 :: y246 :: y247 :: y248 :: y249 :: y250 :: y251 :: y252 :: y253 :: y254 :: y255 :: y256 :: y257 :: y258 :: y259 :: y260 :: y261 :: y262 :: y263 :: y264 :: y265 :: y266 :: y267 :: y268 :: y269 :: y270 :: y271 :: y272 :: y273 :: y274 :: y275 :: y276 :: y277 :: []), []⟩ w4 := by
  conv => arg 2; whnf
  have hpu3 : (rowPut 40 ⟨w4.heap.size, 0, none⟩ (.agg #[.int .i64 xk, .int .i64 xf, .int .i64 xv, .int .i64 bv, .int .i64 jv, .int .u64 jb, .int .u64 j0, .int .u64 j1, .int .u64 j2, .int .u64 j3, .string bc, .int .u64 nu, .int .i64 cv, .int .u64 cb, .int .u64 k0, .int .u64 k1, .int .u64 k2, .int .u64 k3, .int .u64 sl])).run Tryd.prog (w4.alloc (.cells #[.int .i64 0, .int .i64 0, .int .i64 0, .int .i64 0, .int .i64 0, .int .u64 0, .int .u64 0, .int .u64 0, .int .u64 0, .int .u64 0, .string ⟨#[]⟩, .int .u64 0, .int .i64 0, .int .u64 0, .int .u64 0, .int .u64 0, .int .u64 0, .int .u64 0, .int .u64 0] 40)) = .ok () (w4.alloc (.cells #[.int .i64 xk, .int .i64 xf, .int .i64 xv, .int .i64 bv, .int .i64 jv, .int .u64 jb, .int .u64 j0, .int .u64 j1, .int .u64 j2, .int .u64 j3, .string bc, .int .u64 nu, .int .i64 cv, .int .u64 cb, .int .u64 k0, .int .u64 k1, .int .u64 k2, .int .u64 k3, .int .u64 sl] 40)) := (rowPut_mid _ w4.heap.size 0 40 #[.int .i64 xk, .int .i64 xf, .int .i64 xv, .int .i64 bv, .int .i64 jv, .int .u64 jb, .int .u64 j0, .int .u64 j1, .int .u64 j2, .int .u64 j3, .string bc, .int .u64 nu, .int .i64 cv, .int .u64 cb, .int .u64 k0, .int .u64 k1, .int .u64 k2, .int .u64 k3, .int .u64 sl] (start19 w4 _ rfl _) (by kernel_rfl) (by simp [Value.oneCell'])).trans (by rw [setCells_new, fill19])
  go_upto_region 27 with fail
  clear hpu3 hlB
  obtain ⟨V, hV⟩ : ∃ V, V = w4.alloc (.cells #[.int .i64 xk, .int .i64 xf, .int .i64 xv, .int .i64 bv, .int .i64 jv, .int .u64 jb, .int .u64 j0, .int .u64 j1, .int .u64 j2, .int .u64 j3, .string bc, .int .u64 nu, .int .i64 cv, .int .u64 cb, .int .u64 k0, .int .u64 k1, .int .u64 k2, .int .u64 k3, .int .u64 sl] 40) := ⟨_, rfl⟩
  rw [← hV]
  have HBV : Hid (Below w4.heap.size w4 V) := by rw [hV]; exact below_alloc _ _
  have HXV : Hid (V.heap[w4.heap.size]? = some (.cells #[.int .i64 xk, .int .i64 xf, .int .i64 xv, .int .i64 bv, .int .i64 jv, .int .u64 jb, .int .u64 j0, .int .u64 j1, .int .u64 j2, .int .u64 j3, .string bc, .int .u64 nu, .int .i64 cv, .int .u64 cb, .int .u64 k0, .int .u64 k1, .int .u64 k2, .int .u64 k3, .int .u64 sl] 40 (0, 0))) := by rw [hV]; exact heap_alloc_new w4 _
  clear hV
  obtain ⟨B3, hB3⟩ : ∃ b, b = w4.heap.size := ⟨_, rfl⟩
  have HB3 : Hid (B3 = w4.heap.size) := hB3
  rw [← hB3] at HXV ⊢
  clear hB3
  have HBF : Hid (∀ W, Fr (fun b => b = B3) V W → Below w4.heap.size w4 W) := fun W hW => below_one HBV.out hW (by have := HB3.out; omega) HBV.out.size
  have HTB : Hid (∀ W, Fr (fun b => b = B3) V W → Tab W) := fun W hW => (HS4.out.below (HBF.out W hW)).k.tab
  go_wp2
  refine ksl_loop2 hwq HPG HXV ?hex
  intro a22 a139 a140 a141 a142 a143 a144 a145 a146 a147 a148 a149 a150 a151 a152 a153 a154 a155 a156 a157 a158 a159 a160 a161 a162 a163 a164 a165 a166 a167 w5 s0 s1 s2 s3 hx5 hf5
  simp only [Exit.inBlock, Exit.then]
  have HX5 : Hid (w5.heap[B3]? = some (.cells #[.int .i64 xk, .int .i64 xf, .int .i64 xv, .int .i64 bv, .int .i64 jv, .int .u64 jb, .int .u64 s0, .int .u64 s1, .int .u64 s2, .int .u64 s3, .string bc, .int .u64 nu, .int .i64 cv, .int .u64 cb, .int .u64 k0, .int .u64 k1, .int .u64 k2, .int .u64 k3, .int .u64 sl] 40 (0, 0))) := hx5
  have HF5 : Hid (Fr (fun b => b = B3) V w5) := hf5
  have HTB5 : Hid (∀ W, Fr (fun b => b = B3) w5 W → Tab W) := fun W hW => HTB.out W (HF5.out.trans hW (fun _ h => .inl h))
  have HJO : Hid (-9223372036854775808 ≤ jv ∧ jv ≤ 9223372036854775807 ∧ jb < 18446744073709551616) := ⟨HXO.out.b.j.v0, HXO.out.b.j.v1, HXO.out.b.j.b1⟩
  clear hx5 hf5 HXV
  go_wp2
  refine ksl_loop3 hwq HPG HTB5 HJO HNZ HX5 ?hex3
  intro b23 b168 b169 b170 b171 b172 b173 b174 b175 b176 b177 b178 b179 b180 b181 b182 b183 b184 b185 b186 b187 b188 b189 b190 b191 b192 b193 b194 b195 b196 b197 b198 b199 b200 b201 b202 b203 b204 b205 b206 w6 r0 r1 r2 r3 hx6 hf6 hne
  simp only [Exit.inBlock, Exit.then]
  have HX6 : Hid (w6.heap[B3]? = some (.cells #[.int .i64 xk, .int .i64 xf, .int .i64 xv, .int .i64 bv, .int .i64 jv, .int .u64 jb, .int .u64 r0, .int .u64 r1, .int .u64 r2, .int .u64 r3, .string bc, .int .u64 nu, .int .i64 cv, .int .u64 cb, .int .u64 k0, .int .u64 k1, .int .u64 k2, .int .u64 k3, .int .u64 sl] 40 (0, 0))) := hx6
  have HF6 : Hid (Fr (fun b => b = B3) V w6) := HF5.out.trans hf6 (fun _ h => .inl h)
  have HNE : Hid (∀ t : Nat, t < 4 → t ≠ pickN se 4 → t ≠ pickN (se.tdiv 4) 4 → of4 r0 r1 r2 r3 t ≠ sealOf t 2 jv jb) := hne
  clear hx6 hf6 hne HX5 HF5 HTB5 HJO HPG
  have HFM : Hid (1 ≤ xv ∧ xv ≤ 1000 ∧ xf = xv % 4) := takes_form (x := ⟨xk, xf, xv, ⟨bv, ⟨jv, jb, j0, j1, j2, j3⟩, bc⟩, nu, ⟨cv, cb, k0, k1, k2, k3⟩, sl⟩) HK1.out HM5.out
  have hlk : (rowVar 38 ⟨B3, 3, none⟩).run Tryd.prog w6 = .ok (.agg #[.int .i64 bv, .int .i64 jv, .int .u64 jb, .int .u64 r0, .int .u64 r1, .int .u64 r2, .int .u64 r3, .string bc]) w6 := by
    refine rowVar_mid w6 B3 3 38 [.int .i64 bv, .int .i64 jv, .int .u64 jb, .int .u64 r0, .int .u64 r1, .int .u64 r2, .int .u64 r3, .string bc] _ (fun j v hv => ?_) Tryd.underlying38 rfl (by kernel_rfl)
    rw [cell_at HX6.out]
    rcases j with _ | _ | _ | _ | _ | _ | _ | _ | j
    · exact hv
    · exact hv
    · exact hv
    · exact hv
    · exact hv
    · exact hv
    · exact hv
    · exact hv
    · simp at hv
  have HNU : Hid (Calls Tryd.prog 27 #[.agg #[.int .i64 bv, .int .i64 jv, .int .u64 jb, .int .u64 r0, .int .u64 r1, .int .u64 r2, .int .u64 r3, .string bc]] w6 fun e w' => e = .returned (.int .u64 (Blk.num ⟨bv, ⟨jv, jb, j0, j1, j2, j3⟩, bc⟩ : Nat)) ∧ Below w6.heap.size w6 w') := pnum ⟨bv, ⟨jv, jb, r0, r1, r2, r3⟩, bc⟩ ⟨HXO.out.b.v0, HXO.out.b.v1, ⟨HXO.out.b.j.v0, HXO.out.b.j.v1, HXO.out.b.j.b1⟩, HXO.out.b.c1⟩ HXO.out.b.c1 w6 (HTB.out w6 HF6.out)
  have HNL : Hid (Blk.num ⟨bv, ⟨jv, jb, j0, j1, j2, j3⟩, bc⟩ < 18446744073709551616) := num_lt _
  have HSQ : Hid ((m.handle ⟨xk, xf, xv, ⟨bv, ⟨jv, jb, r0, r1, r2, r3⟩, bc⟩, nu, ⟨cv, cb, k0, k1, k2, k3⟩, sealOf xf 1 xv (Blk.num ⟨bv, ⟨jv, jb, j0, j1, j2, j3⟩, bc⟩)⟩).2.2 = 2) := sealed_just (x := ⟨xk, xf, xv, ⟨bv, ⟨jv, jb, j0, j1, j2, j3⟩, bc⟩, nu, ⟨cv, cb, k0, k1, k2, k3⟩, sl⟩) HK1.out HM5.out HJV.out (pickN se 4) (pickN (se.tdiv 4) 4) r0 r1 r2 r3 (fun j hj h1 h2 => HNE.out j hj h1 h2)
  generalize Blk.num ⟨bv, ⟨jv, jb, j0, j1, j2, j3⟩, bc⟩ = nb at HNU HNL HSQ
  go_upto_region 38 with (go_at_call 27; refine HNU.out.mono ?_; rintro e w7 ⟨rfl, hb7⟩; have HB7 : Hid (Below w6.heap.size w6 w7) := hb7; clear hb7)
  have hlb6 : B3 < w6.heap.size := lt_at HX6.out
  have HX7 : Hid (w7.heap[B3]? = some (.cells #[.int .i64 xk, .int .i64 xf, .int .i64 xv, .int .i64 bv, .int .i64 jv, .int .u64 jb, .int .u64 r0, .int .u64 r1, .int .u64 r2, .int .u64 r3, .string bc, .int .u64 nu, .int .i64 cv, .int .u64 cb, .int .u64 k0, .int .u64 k1, .int .u64 k2, .int .u64 k3, .int .u64 sl] 40 (0, 0))) := (HB7.out.block B3 hlb6).trans HX6.out
  have HF7 : Hid (Fr (fun b => b = B3) V w7) := HF6.out.trans (Fr.of_below HB7.out) (fun _ h => .inl h)
  have d1 : w7.cell? ⟨B3, 1, none⟩ = some (.int .i64 xf) := cell_at HX7.out 1
  have d2 : w7.cell? ⟨B3, 2, none⟩ = some (.int .i64 xv) := cell_at HX7.out 2
  have HSL : Hid (Calls Tryd.prog 11 #[.int .i64 xf, .int .i64 1, .int .i64 xv, .int .u64 nb] w7 fun e w' => e = .returned (.int .u64 (sealOf xf 1 xv nb)) ∧ Below w7.heap.size w7 w') := pseal xf 1 xv nb (by have := HFM.out; omega) (by have := HFM.out; omega) (by decide) (by decide) (by have := HFM.out; omega) (by have := HFM.out; omega) HNL.out w7 (HTB.out w7 HF7.out).is
  generalize sealOf xf 1 xv nb = sq at HSL HSQ
  have HW8 : Hid (∀ W8, Below w7.heap.size w7 W8 → W8.cell? ⟨B3, 18, none⟩ = some (.int .u64 sl) ∧ W8.frozen? ⟨B3, 18, none⟩ = false) := fun W8 h8 => by
    have hx8 := (h8.block B3 (lt_at HX7.out)).trans HX7.out
    exact ⟨cell_at hx8 18, free_at hx8 18⟩
  clear hlk HNU
  go_upto_region 39 with (go_at_call 11; refine HSL.out.mono ?_; rintro e w8 ⟨rfl, hb8⟩; have HB8 : Hid (Below w7.heap.size w7 w8) := hb8; clear hb8; obtain ⟨d18, z18⟩ := HW8.out w8 HB8.out)
  obtain ⟨V8, hV8⟩ : ∃ V8, V8 = w8.setCell ⟨B3, 18, none⟩ (.int .u64 sq) := ⟨_, rfl⟩
  rw [← hV8]
  have HX8 : Hid (V8.heap[B3]? = some (.cells #[.int .i64 xk, .int .i64 xf, .int .i64 xv, .int .i64 bv, .int .i64 jv, .int .u64 jb, .int .u64 r0, .int .u64 r1, .int .u64 r2, .int .u64 r3, .string bc, .int .u64 nu, .int .i64 cv, .int .u64 cb, .int .u64 k0, .int .u64 k1, .int .u64 k2, .int .u64 k3, .int .u64 sq] 40 (0, 0))) := by
    rw [hV8]
    exact heap_store (i := 18) ((HB8.out.block B3 (lt_at HX7.out)).trans HX7.out) (.int .u64 sq)
  have HF8 : Hid (Fr (fun b => b = B3) V V8) := by
    rw [hV8]
    exact (HF7.out.trans (Fr.of_below HB8.out) (fun _ h => .inl h)).trans (Fr.setCell (S := fun b => b = B3) _ (a := ⟨B3, 18, none⟩) rfl _) (fun _ h => .inl h)
  have hlw8 : (rowVar 40 ⟨B3, 0, none⟩).run Tryd.prog V8 = .ok (.agg #[.int .i64 xk, .int .i64 xf, .int .i64 xv, .int .i64 bv, .int .i64 jv, .int .u64 jb, .int .u64 r0, .int .u64 r1, .int .u64 r2, .int .u64 r3, .string bc, .int .u64 nu, .int .i64 cv, .int .u64 cb, .int .u64 k0, .int .u64 k1, .int .u64 k2, .int .u64 k3, .int .u64 sq]) V8 := rowVar_whole _ B3 40 40 _ (0, 0) _ HX8.out Tryd.underlying40 rfl (by kernel_rfl)
  have HH : Hid (Calls Tryd.prog 25 #[.pointer (some ⟨pm, 0, none⟩), .agg #[.int .i64 xk, .int .i64 xf, .int .i64 xv, .int .i64 bv, .int .i64 jv, .int .u64 jb, .int .u64 r0, .int .u64 r1, .int .u64 r2, .int .u64 r3, .string bc, .int .u64 nu, .int .i64 cv, .int .u64 cb, .int .u64 k0, .int .u64 k1, .int .u64 k2, .int .u64 k3, .int .u64 sq]] V8 fun e w' => ∃ a cap, e = .returned (.tuple #[.slice a 0 cap, .int .i64 2]) ∧ KGoes w4 w' p A4 ps KK) := by
    have hb := HBF.out V8 HF8.out
    refine (krefused (x := ⟨xk, xf, xv, ⟨bv, ⟨jv, jb, r0, r1, r2, r3⟩, bc⟩, nu, ⟨cv, cb, k0, k1, k2, k3⟩, sq⟩) (HS4.out.below hb) HO3.out (by omega) hk4 HPM.out HM.out.1 ⟨⟨HXO.out.b.v0, HXO.out.b.v1, ⟨HXO.out.b.j.v0, HXO.out.b.j.v1, HXO.out.b.j.b1⟩, HXO.out.b.c1⟩, HXO.out.n, HXO.out.c⟩ HM.out.2 (by rw [HSQ.out]; decide)).mono ?_
    rintro e w' ⟨a, cap, he, hg, _⟩
    rw [HSQ.out] at he
    exact ⟨a, cap, he, kgoes_below hb hg⟩
  clear hV8 d1 d2 d18 z18
  go_wp2_with (go_at_call 25; refine HH.out.mono ?_; rintro e w9 ⟨a9, cap9, rfl, hg9⟩; have HG9 : Hid (KGoes w4 w9 p A4 ps KK) := hg9; clear hg9)
  exact HEX.out HG9.out
end Go.Proofs.YtkehpnobidendaaDoor

namespace Go.Proofs.YtkehpnobidendaaDoor
open Go.RowKit
theorem ld_crtK (a : Addr) : loadVar 26 a = rowVar 26 a := rfl
theorem put_crtK (a : Addr) (v : Value) : storeVar 26 a v = rowPut 26 a v := rfl
noncomputable def klyR5 : Code := ((Tryd.f40.body.bind (regOf 5))).getD .skip
set_option maxRecDepth 1000000 in
set_option maxHeartbeats 8000000 in
theorem kly_r5 {y0 y1 y2 y4 y5 y8 y9 y10 y11 y12 y13 y14 y15 y16 y17 y18 y19 y20 y21 y22 y23 y24 y25 y26 y27 y28 y29 y30 y31 y32 y33 y34 y35 y36 y37 y38 y39 y40 y41 y42 y43 y44 y45 y46 y47 y48 y49 y50 y51 y52 y53 y54 y55 y56 y57 y58 y59 y60 y61 y62 y63 y64 y65 y66 y67 y68 y69 y70 y71 y72 y73 y74 y75 y76 y77 y78 y79 y80 y81 y82 y83 y84 y85 y86 y87 y88 y89 y90 y91 y92 y93 y94 y95 y96 y97 y98 y99 y100 y101 y102 y103 y104 y105 y106 y107 y108 y109 y110 y111 y112 y113 y114 y115 y116 y117 y118 y119 y120 y121 y122 y123 y124 y125 y126 y127 y128 y129 y130 y131 y132 y133 y134 y135 y136 y137 y138 y139 y140 y141 y142 y143 y144 y145 y146 y147 y148 y149 y150 y151 y152 y153 y154 y155 y156 y157 y158 y159 y160 y161 y162 y163 y164 y165 y166 y167 y168 y169 y170 y171 y172 y173 y174 y175 y176 y177 y178 y179 y180 y181 y182 y183 : Value} {cv sa xv : Int} {Bt Bm Bc pk : Nat} {wr : World} {Q : Exit → Act → World → Prop}
    (HPK : Hid (∀ W, Calls Tryd.prog 13 #[.int .i64 sa, .int .i64 6] W fun e w' => e = .returned (.int .i64 (pk : Int)) ∧ W = w')) (hw1 : IntKind.i64.wrap (cv + 1) = cv + 1) (hw2 : IntKind.i64.wrap (cv + 1 + (pk : Int)) = cv + 1 + (pk : Int))
    (c0 : wr.cell? ⟨Bc, 0, none⟩ = some (.int .i64 cv)) (t1 : wr.cell? ⟨Bt, 1, none⟩ = some (.int .i64 sa)) (m2 : wr.cell? ⟨Bm, 2, none⟩ = some (.int .i64 xv)) (fz : wr.frozen? ⟨Bm, 2, none⟩ = false)
    (HEX : Hid (∀ {v46 v47 v48 v49 v50 v51 v52 v53 : Value}, Q .normal ⟨List.toArray (y0 :: y1 :: y2 :: .pointer (some ⟨Bt, 0, none⟩) :: y4 :: y5 :: .pointer (some ⟨Bm, 0, none⟩) :: .pointer (some ⟨Bc, 0, none⟩) :: y8 :: y9 :: y10 :: y11 :: y12 :: y13 :: y14 :: y15 :: y16 :: y17 :: y18 :: y19 :: y20 :: y21 :: y22 :: y23 :: y24 :: y25 :: y26 :: y27 :: y28 :: y29 :: y30 :: y31 :: y32 :: y33 :: y34 :: y35 :: y36 :: y37 :: y38 :: y39 :: y40 :: y41 :: y42 :: y43 :: y44 :: y45 :: v46 :: v47 :: v48 :: v49 :: v50 :: v51 :: v52 :: v53 :: y54 :: y55 :: y56 :: y57 :: y58 :: y59 :: y60 :: y61 :: y62 :: y63 :: y64 :: y65 :: y66 :: y67 :: y68 :: y69 :: y70 :: y71 :: y72 :: y73 :: y74 :: y75 :: y76 :: y77 :: y78 :: y79 :: y80 :: y81 :: y82 :: y83 :: y84 :: y85 :: y86 :: y87 :: y88 :: y89 :: y90 :: y91 :: y92 :: y93 :: y94 :: y95 :: y96 :: y97 :: y98 :: y99 :: y100 :: y101 :: y102 :: y103 :: y104 :: y105 :: y106 :: y107 :: y108 :: y109 :: y110 :: y111 :: y112 :: y113 :: y114 :: y115 :: y116 :: y117 :: y118 :: y119 :: y120 :: y121 :: y122 :: y123 :: y124 :: y125 :: y126 :: y127 :: y128 :: y129 :: y130 :: y131 :: y132 :: y133 :: y134 :: y135 :: y136 :: y137 :: y138 :: y139 :: y140 :: y141 :: y142 :: y143 :: y144 :: y145 :: y146 :: y147 :: y148 :: y149 :: y150 :: y151 :: y152 :: y153 :: y154 :: y155 :: y156 :: y157 :: y158 :: y159 :: y160 :: y161 :: y162 :: y163 :: y164 :: y165 :: y166 :: y167 :: y168 :: y169 :: y170 :: y171 :: y172 :: y173 :: y174 :: y175 :: y176 :: y177 :: y178 :: y179 :: y180 :: y181 :: y182 :: y183 :: []), []⟩ (wr.setCell ⟨Bm, 2, none⟩ (.int .i64 (cv + 1 + pk))).drew)) :
    Code.wp Tryd.prog klyR5 Q ⟨List.toArray (y0 :: y1 :: y2 :: .pointer (some ⟨Bt, 0, none⟩) :: y4 :: y5 :: .pointer (some ⟨Bm, 0, none⟩) :: .pointer (some ⟨Bc, 0, none⟩) :: y8 :: y9 :: y10 :: y11 :: y12 :: y13 :: y14 :: y15 :: y16 :: y17 :: y18 :: y19 :: y20 :: y21 :: y22 :: y23 :: y24 :: y25 :: y26 :: y27 :: y28 :: y29 :: y30 :: y31 :: y32 :: y33 :: y34 :: y35 :: y36 :: y37 :: y38 :: y39 :: y40 :: y41 :: y42 :: y43 :: y44 :: y45 :: y46 :: y47 :: y48 :: y49 :: y50 :: y51 :: y52 :: y53 :: y54 :: y55 :: y56 :: y57 :: y58 :: y59 :: y60 :: y61 :: y62 :: y63 :: y64 :: y65 :: y66 :: y67 :: y68 :: y69 :: y70 :: y71 :: y72 :: y73 :: y74 :: y75 :: y76 :: y77 :: y78 :: y79 :: y80 :: y81 :: y82 :: y83 :: y84 :: y85 :: y86 :: y87 :: y88 :: y89 :: y90 :: y91 :: y92 :: y93 :: y94 :: y95 :: y96 :: y97 :: y98 :: y99 :: y100 :: y101 :: y102 :: y103 :: y104 :: y105 :: y106 :: y107 :: y108 :: y109 :: y110 :: y111 :: y112 :: y113 :: y114 :: y115 :: y116 :: y117 :: y118 :: y119 :: y120 :: y121 :: y122 :: y123 :: y124 :: y125 :: y126 :: y127 :: y128 :: y129 :: y130 :: y131 :: y132 :: y133 :: y134 :: y135 :: y136 :: y137 :: y138 :: y139 :: y140 :: y141 :: y142 :: y143 :: y144 :: y145 :: y146 :: y147 :: y148 :: y149 :: y150 :: y151 :: y152 :: y153 :: y154 :: y155 :: y156 :: y157 :: y158 :: y159 :: y160 :: y161 :: y162 :: y163 :: y164 :: y165 :: y166 :: y167 :: y168 :: y169 :: y170 :: y171 :: y172 :: y173 :: y174 :: y175 :: y176 :: y177 :: y178 :: y179 :: y180 :: y181 :: y182 :: y183 :: []), []⟩ wr := by
  refine wp_mono (Q := Exit.then (Q .normal) (fun _ _ _ => False)) ?_ (fun e a w h => by cases e <;> first | exact h | exact h.elim)
  conv => arg 2; whnf
  go_region_with (go_at_call 13; refine (HPK.out _).mono ?_; rintro e w9 ⟨rfl, rfl⟩)
  all_goals exact HEX.out
noncomputable def klyR3 : Code := ((Tryd.f40.body.bind (regOf 3))).getD .skip
set_option maxRecDepth 1000000 in
set_option maxHeartbeats 8000000 in
theorem kly_r3 {y1 y2 y4 y5 y6 y7 y8 y9 y10 y11 y12 y13 y14 y15 y16 y17 y18 y19 y20 y21 y22 y23 y24 y25 y26 y27 y28 y29 y30 y31 y32 y33 y34 y35 y36 y37 y38 y39 y40 y41 y42 y43 y44 y45 y46 y47 y48 y49 y50 y51 y52 y53 y54 y55 y56 y57 y58 y59 y60 y61 y62 y63 y64 y65 y66 y67 y68 y69 y70 y71 y72 y73 y74 y75 y76 y77 y78 y79 y80 y81 y82 y83 y84 y85 y86 y87 y88 y89 y90 y91 y92 y93 y94 y95 y96 y97 y98 y99 y100 y101 y102 y103 y104 y105 y106 y107 y108 y109 y110 y111 y112 y113 y114 y115 y116 y117 y118 y119 y120 y121 y122 y123 y124 y125 y126 y127 y128 y129 y130 y131 y132 y133 y134 y135 y136 y137 y138 y139 y140 y141 y142 y143 y144 y145 y146 y147 y148 y149 y150 y151 y152 y153 y154 y155 y156 y157 y158 y159 y160 y161 y162 y163 y164 y165 y166 y167 y168 y169 y170 y171 y172 y173 y174 y175 y176 y177 y178 y179 y180 y181 y182 y183 : Value} {sb cv k0 k1 k2 k3 : Int} {cb p Bt pk nl g off cl i : Nat} {wr : World} {Q : Exit → Act → World → Prop}
    (HPK : Hid (∀ W, Calls Tryd.prog 13 #[.int .i64 sb, .int .i64 nl] W fun e w' => e = .returned (.int .i64 (pk : Int)) ∧ W = w')) (hw1 : IntKind.i64.wrap ((nl : Int) - 1) = (nl : Int) - 1) (hw2 : IntKind.i64.wrap ((nl : Int) - 1 - (pk : Int)) = (i : Int)) (hi0 : (0 : Int) ≤ (i : Int)) (hi1 : (i : Int) < (nl : Int))
    (HS : Hid (∀ W, Below wr.heap.size wr W → Below wr.heap.size wr W ∧ W.cell? ⟨p, 3, none⟩ = some (.slice (some ⟨g, off, none⟩) nl cl) ∧ W.cell? ⟨Bt, 2, none⟩ = some (.int .i64 sb) ∧ W.cell? ⟨g, off + i * 6, none⟩ = some (.int .i64 cv) ∧ W.cell? ⟨g, off + i * 6 + 1, none⟩ = some (.int .u64 cb) ∧ W.cell? ⟨g, off + i * 6 + 2, none⟩ = some (.int .u64 k0) ∧ W.cell? ⟨g, off + i * 6 + 3, none⟩ = some (.int .u64 k1) ∧ W.cell? ⟨g, off + i * 6 + 4, none⟩ = some (.int .u64 k2) ∧ W.cell? ⟨g, off + i * 6 + 5, none⟩ = some (.int .u64 k3)))
    (HEX : Hid (∀ {v23 v24 v25 v26 v27 v28 v29 v30 v31 v32 v33 v34 v35 v36 v37 v38 v39 v40 v41 v42 v43 : Value}, Q .normal ⟨List.toArray (.pointer (some ⟨p, 0, none⟩) :: y1 :: y2 :: .pointer (some ⟨Bt, 0, none⟩) :: y4 :: y5 :: y6 :: .pointer (some ⟨wr.heap.size, 0, none⟩) :: y8 :: y9 :: y10 :: y11 :: y12 :: y13 :: y14 :: y15 :: y16 :: y17 :: y18 :: y19 :: y20 :: y21 :: y22 :: v23 :: v24 :: v25 :: v26 :: v27 :: v28 :: v29 :: v30 :: v31 :: v32 :: v33 :: v34 :: v35 :: v36 :: v37 :: v38 :: v39 :: v40 :: v41 :: v42 :: v43 :: y44 :: y45 :: y46 :: y47 :: y48 :: y49 :: y50 :: y51 :: y52 :: y53 :: y54 :: y55 :: y56 :: y57 :: y58 :: y59 :: y60 :: y61 :: y62 :: y63 :: y64 :: y65 :: y66 :: y67 :: y68 :: y69 :: y70 :: y71 :: y72 :: y73 :: y74 :: y75 :: y76 :: y77 :: y78 :: y79 :: y80 :: y81 :: y82 :: y83 :: y84 :: y85 :: y86 :: y87 :: y88 :: y89 :: y90 :: y91 :: y92 :: y93 :: y94 :: y95 :: y96 :: y97 :: y98 :: y99 :: y100 :: y101 :: y102 :: y103 :: y104 :: y105 :: y106 :: y107 :: y108 :: y109 :: y110 :: y111 :: y112 :: y113 :: y114 :: y115 :: y116 :: y117 :: y118 :: y119 :: y120 :: y121 :: y122 :: y123 :: y124 :: y125 :: y126 :: y127 :: y128 :: y129 :: y130 :: y131 :: y132 :: y133 :: y134 :: y135 :: y136 :: y137 :: y138 :: y139 :: y140 :: y141 :: y142 :: y143 :: y144 :: y145 :: y146 :: y147 :: y148 :: y149 :: y150 :: y151 :: y152 :: y153 :: y154 :: y155 :: y156 :: y157 :: y158 :: y159 :: y160 :: y161 :: y162 :: y163 :: y164 :: y165 :: y166 :: y167 :: y168 :: y169 :: y170 :: y171 :: y172 :: y173 :: y174 :: y175 :: y176 :: y177 :: y178 :: y179 :: y180 :: y181 :: y182 :: y183 :: []), []⟩ (wr.alloc (.cells #[.int .i64 cv, .int .u64 cb, .int .u64 k0, .int .u64 k1, .int .u64 k2, .int .u64 k3] 26)).drew)) :
    Code.wp Tryd.prog klyR3 Q ⟨List.toArray (.pointer (some ⟨p, 0, none⟩) :: y1 :: y2 :: .pointer (some ⟨Bt, 0, none⟩) :: y4 :: y5 :: y6 :: y7 :: y8 :: y9 :: y10 :: y11 :: y12 :: y13 :: y14 :: y15 :: y16 :: y17 :: y18 :: y19 :: y20 :: y21 :: y22 :: y23 :: y24 :: y25 :: y26 :: y27 :: y28 :: y29 :: y30 :: y31 :: y32 :: y33 :: y34 :: y35 :: y36 :: y37 :: y38 :: y39 :: y40 :: y41 :: y42 :: y43 :: y44 :: y45 :: y46 :: y47 :: y48 :: y49 :: y50 :: y51 :: y52 :: y53 :: y54 :: y55 :: y56 :: y57 :: y58 :: y59 :: y60 :: y61 :: y62 :: y63 :: y64 :: y65 :: y66 :: y67 :: y68 :: y69 :: y70 :: y71 :: y72 :: y73 :: y74 :: y75 :: y76 :: y77 :: y78 :: y79 :: y80 :: y81 :: y82 :: y83 :: y84 :: y85 :: y86 :: y87 :: y88 :: y89 :: y90 :: y91 :: y92 :: y93 :: y94 :: y95 :: y96 :: y97 :: y98 :: y99 :: y100 :: y101 :: y102 :: y103 :: y104 :: y105 :: y106 :: y107 :: y108 :: y109 :: y110 :: y111 :: y112 :: y113 :: y114 :: y115 :: y116 :: y117 :: y118 :: y119 :: y120 :: y121 :: y122 :: y123 :: y124 :: y125 :: y126 :: y127 :: y128 :: y129 :: y130 :: y131 :: y132 :: y133 :: y134 :: y135 :: y136 :: y137 :: y138 :: y139 :: y140 :: y141 :: y142 :: y143 :: y144 :: y145 :: y146 :: y147 :: y148 :: y149 :: y150 :: y151 :: y152 :: y153 :: y154 :: y155 :: y156 :: y157 :: y158 :: y159 :: y160 :: y161 :: y162 :: y163 :: y164 :: y165 :: y166 :: y167 :: y168 :: y169 :: y170 :: y171 :: y172 :: y173 :: y174 :: y175 :: y176 :: y177 :: y178 :: y179 :: y180 :: y181 :: y182 :: y183 :: []), []⟩ wr := by
  refine wp_mono (Q := Exit.then (Q .normal) (fun _ _ _ => False)) ?_ (fun e a w h => by cases e <;> first | exact h | exact h.elim)
  conv => arg 2; whnf
  go_region_held3 (fun w' => Below wr.heap.size wr w' ∧ w'.cell? ⟨p, 3, none⟩ = some (.slice (some ⟨g, off, none⟩) nl cl) ∧ w'.cell? ⟨Bt, 2, none⟩ = some (.int .i64 sb) ∧ w'.cell? ⟨g, off + i * 6, none⟩ = some (.int .i64 cv) ∧ w'.cell? ⟨g, off + i * 6 + 1, none⟩ = some (.int .u64 cb) ∧ w'.cell? ⟨g, off + i * 6 + 2, none⟩ = some (.int .u64 k0) ∧ w'.cell? ⟨g, off + i * 6 + 3, none⟩ = some (.int .u64 k1) ∧ w'.cell? ⟨g, off + i * 6 + 4, none⟩ = some (.int .u64 k2) ∧ w'.cell? ⟨g, off + i * 6 + 5, none⟩ = some (.int .u64 k3))
    (first | (exact HS.out _ (Below.refl _ _).drew) | (exact HS.out _ (bnext (And.left ‹Below wr.heap.size wr _ ∧ _›) (below_alloc _ _))) | (exact HS.out _ (bnext (Below.refl _ _).drew (below_alloc _ _))))
    ((go_at_call 13; refine (HPK.out _).mono ?_; rintro e w9 ⟨rfl, rfl⟩))
  all_goals exact HEX.out
attribute [local go_sem ↓] ld_ltr put_ltr
noncomputable def klyR20 : Code := ((Tryd.f40.body.bind (regOf 20))).getD .skip
set_option maxRecDepth 1000000 in
set_option maxHeartbeats 8000000 in
theorem kly_r20 {y1 y2 y4 y5 y6 y7 y8 y9 y10 y11 y12 y13 y14 y15 y16 y17 y18 y19 y20 y21 y22 y23 y24 y25 y26 y27 y28 y29 y30 y31 y32 y33 y34 y35 y36 y37 y38 y39 y40 y41 y42 y43 y44 y45 y46 y47 y48 y49 y50 y51 y52 y53 y54 y55 y56 y57 y58 y59 y60 y61 y62 y63 y64 y65 y66 y67 y68 y69 y70 y71 y72 y73 y74 y75 y76 y77 y78 y79 y80 y81 y82 y83 y84 y85 y86 y87 y88 y89 y90 y91 y92 y93 y94 y95 y96 y97 y98 y99 y100 y101 y102 y103 y104 y105 y106 y107 y108 y109 y110 y111 y112 y113 y114 y115 y116 y117 y118 y119 y120 y121 y122 y123 y124 y125 y126 y127 y128 y129 y130 y131 y132 y133 y134 y135 y136 y137 y138 y139 y140 y141 y142 y143 y144 y145 y146 y147 y148 y149 y150 y151 y152 y153 y154 y155 y156 y157 y158 y159 y160 y161 y162 y163 y164 y165 y166 y167 y168 y169 y170 y171 y172 y173 y174 y175 y176 y177 y178 y179 y180 y181 y182 y183 : Value} {sa : Int} {l0 xk xf xv bv jv j0 j1 j2 j3 cv k0 k1 k2 k3 sl : Int} {jb nu cb : Nat} {bc : ByteArray} {p Bt pk nl g off cl i : Nat} {wr : World} {Q : Exit → Act → World → Prop}
    (HPK : Hid (∀ W, Calls Tryd.prog 13 #[.int .i64 sa, .int .i64 nl] W fun e w' => e = .returned (.int .i64 (pk : Int)) ∧ W = w')) (hw1 : IntKind.i64.wrap ((nl : Int) - 1) = (nl : Int) - 1) (hw2 : IntKind.i64.wrap ((nl : Int) - 1 - (pk : Int)) = (i : Int)) (hi0 : (0 : Int) ≤ (i : Int)) (hi1 : (i : Int) < (nl : Int))
    (HS : Hid (∀ W, Below wr.heap.size wr W → Below wr.heap.size wr W ∧ W.cell? ⟨p, 2, none⟩ = some (.slice (some ⟨g, off, none⟩) nl cl) ∧ W.cell? ⟨Bt, 1, none⟩ = some (.int .i64 sa) ∧ (rowVar 42 ⟨g, off + i * 20, none⟩).run Tryd.prog W = .ok (.agg #[.int .i64 l0, .int .i64 xk, .int .i64 xf, .int .i64 xv, .int .i64 bv, .int .i64 jv, .int .u64 jb, .int .u64 j0, .int .u64 j1, .int .u64 j2, .int .u64 j3, .string bc, .int .u64 nu, .int .i64 cv, .int .u64 cb, .int .u64 k0, .int .u64 k1, .int .u64 k2, .int .u64 k3, .int .u64 sl]) W))
    (hpu : (rowPut 42 ⟨wr.heap.size, 0, none⟩ (.agg #[.int .i64 l0, .int .i64 xk, .int .i64 xf, .int .i64 xv, .int .i64 bv, .int .i64 jv, .int .u64 jb, .int .u64 j0, .int .u64 j1, .int .u64 j2, .int .u64 j3, .string bc, .int .u64 nu, .int .i64 cv, .int .u64 cb, .int .u64 k0, .int .u64 k1, .int .u64 k2, .int .u64 k3, .int .u64 sl])).run Tryd.prog (wr.alloc (.cells #[.int .i64 0, .int .i64 0, .int .i64 0, .int .i64 0, .int .i64 0, .int .i64 0, .int .u64 0, .int .u64 0, .int .u64 0, .int .u64 0, .int .u64 0, .string ⟨#[]⟩, .int .u64 0, .int .i64 0, .int .u64 0, .int .u64 0, .int .u64 0, .int .u64 0, .int .u64 0, .int .u64 0] 42)).drew = .ok () (wr.alloc (.cells #[.int .i64 l0, .int .i64 xk, .int .i64 xf, .int .i64 xv, .int .i64 bv, .int .i64 jv, .int .u64 jb, .int .u64 j0, .int .u64 j1, .int .u64 j2, .int .u64 j3, .string bc, .int .u64 nu, .int .i64 cv, .int .u64 cb, .int .u64 k0, .int .u64 k1, .int .u64 k2, .int .u64 k3, .int .u64 sl] 42)).drew)
    (HEX : Hid (∀ {v104 v105 v106 v107 v108 v109 v110 v111 v112 v113 v114 v115 v116 v117 v118 v119 v120 v121 v122 v123 v124 : Value}, Q .normal ⟨List.toArray (.pointer (some ⟨p, 0, none⟩) :: y1 :: y2 :: .pointer (some ⟨Bt, 0, none⟩) :: y4 :: y5 :: y6 :: y7 :: y8 :: y9 :: .pointer (some ⟨wr.heap.size, 0, none⟩) :: y11 :: y12 :: y13 :: y14 :: y15 :: y16 :: y17 :: y18 :: y19 :: y20 :: y21 :: y22 :: y23 :: y24 :: y25 :: y26 :: y27 :: y28 :: y29 :: y30 :: y31 :: y32 :: y33 :: y34 :: y35 :: y36 :: y37 :: y38 :: y39 :: y40 :: y41 :: y42 :: y43 :: y44 :: y45 :: y46 :: y47 :: y48 :: y49 :: y50 :: y51 :: y52 :: y53 :: y54 :: y55 :: y56 :: y57 :: y58 :: y59 :: y60 :: y61 :: y62 :: y63 :: y64 :: y65 :: y66 :: y67 :: y68 :: y69 :: y70 :: y71 :: y72 :: y73 :: y74 :: y75 :: y76 :: y77 :: y78 :: y79 :: y80 :: y81 :: y82 :: y83 :: y84 :: y85 :: y86 :: y87 :: y88 :: y89 :: y90 :: y91 :: y92 :: y93 :: y94 :: y95 :: y96 :: y97 :: y98 :: y99 :: y100 :: y101 :: y102 :: y103 :: v104 :: v105 :: v106 :: v107 :: v108 :: v109 :: v110 :: v111 :: v112 :: v113 :: v114 :: v115 :: v116 :: v117 :: v118 :: v119 :: v120 :: v121 :: v122 :: v123 :: v124 :: y125 :: y126 :: y127 :: y128 :: y129 :: y130 :: y131 :: y132 :: y133 :: y134 :: y135 :: y136 :: y137 :: y138 :: y139 :: y140 :: y141 :: y142 :: y143 :: y144 :: y145 :: y146 :: y147 :: y148 :: y149 :: y150 :: y151 :: y152 :: y153 :: y154 :: y155 :: y156 :: y157 :: y158 :: y159 :: y160 :: y161 :: y162 :: y163 :: y164 :: y165 :: y166 :: y167 :: y168 :: y169 :: y170 :: y171 :: y172 :: y173 :: y174 :: y175 :: y176 :: y177 :: y178 :: y179 :: y180 :: y181 :: y182 :: y183 :: []), []⟩ (wr.alloc (.cells #[.int .i64 l0, .int .i64 xk, .int .i64 xf, .int .i64 xv, .int .i64 bv, .int .i64 jv, .int .u64 jb, .int .u64 j0, .int .u64 j1, .int .u64 j2, .int .u64 j3, .string bc, .int .u64 nu, .int .i64 cv, .int .u64 cb, .int .u64 k0, .int .u64 k1, .int .u64 k2, .int .u64 k3, .int .u64 sl] 42)).drew)) :
    Code.wp Tryd.prog klyR20 Q ⟨List.toArray (.pointer (some ⟨p, 0, none⟩) :: y1 :: y2 :: .pointer (some ⟨Bt, 0, none⟩) :: y4 :: y5 :: y6 :: y7 :: y8 :: y9 :: y10 :: y11 :: y12 :: y13 :: y14 :: y15 :: y16 :: y17 :: y18 :: y19 :: y20 :: y21 :: y22 :: y23 :: y24 :: y25 :: y26 :: y27 :: y28 :: y29 :: y30 :: y31 :: y32 :: y33 :: y34 :: y35 :: y36 :: y37 :: y38 :: y39 :: y40 :: y41 :: y42 :: y43 :: y44 :: y45 :: y46 :: y47 :: y48 :: y49 :: y50 :: y51 :: y52 :: y53 :: y54 :: y55 :: y56 :: y57 :: y58 :: y59 :: y60 :: y61 :: y62 :: y63 :: y64 :: y65 :: y66 :: y67 :: y68 :: y69 :: y70 :: y71 :: y72 :: y73 :: y74 :: y75 :: y76 :: y77 :: y78 :: y79 :: y80 :: y81 :: y82 :: y83 :: y84 :: y85 :: y86 :: y87 :: y88 :: y89 :: y90 :: y91 :: y92 :: y93 :: y94 :: y95 :: y96 :: y97 :: y98 :: y99 :: y100 :: y101 :: y102 :: y103 :: y104 :: y105 :: y106 :: y107 :: y108 :: y109 :: y110 :: y111 :: y112 :: y113 :: y114 :: y115 :: y116 :: y117 :: y118 :: y119 :: y120 :: y121 :: y122 :: y123 :: y124 :: y125 :: y126 :: y127 :: y128 :: y129 :: y130 :: y131 :: y132 :: y133 :: y134 :: y135 :: y136 :: y137 :: y138 :: y139 :: y140 :: y141 :: y142 :: y143 :: y144 :: y145 :: y146 :: y147 :: y148 :: y149 :: y150 :: y151 :: y152 :: y153 :: y154 :: y155 :: y156 :: y157 :: y158 :: y159 :: y160 :: y161 :: y162 :: y163 :: y164 :: y165 :: y166 :: y167 :: y168 :: y169 :: y170 :: y171 :: y172 :: y173 :: y174 :: y175 :: y176 :: y177 :: y178 :: y179 :: y180 :: y181 :: y182 :: y183 :: []), []⟩ wr := by
  refine wp_mono (Q := Exit.then (Q .normal) (fun _ _ _ => False)) ?_ (fun e a w h => by cases e <;> first | exact h | exact h.elim)
  conv => arg 2; whnf
  go_region_held3 (fun w' => Below wr.heap.size wr w' ∧ w'.cell? ⟨p, 2, none⟩ = some (.slice (some ⟨g, off, none⟩) nl cl) ∧ w'.cell? ⟨Bt, 1, none⟩ = some (.int .i64 sa) ∧ (rowVar 42 ⟨g, off + i * 20, none⟩).run Tryd.prog w' = .ok (.agg #[.int .i64 l0, .int .i64 xk, .int .i64 xf, .int .i64 xv, .int .i64 bv, .int .i64 jv, .int .u64 jb, .int .u64 j0, .int .u64 j1, .int .u64 j2, .int .u64 j3, .string bc, .int .u64 nu, .int .i64 cv, .int .u64 cb, .int .u64 k0, .int .u64 k1, .int .u64 k2, .int .u64 k3, .int .u64 sl]) w')
    (first | (exact HS.out _ (Below.refl _ _).drew) | (exact HS.out _ (bnext (And.left ‹Below wr.heap.size wr _ ∧ _›) (below_alloc _ _))) | (exact HS.out _ (bnext (Below.refl _ _).drew (below_alloc _ _))))
    ((go_at_call 13; refine (HPK.out _).mono ?_; rintro e w9 ⟨rfl, rfl⟩))
  all_goals exact HEX.out
end Go.Proofs.YtkehpnobidendaaDoor
