/- parleykeep's prefix, pick. -/
import Derived.Test.YtkehpnobidendaaDoorM35
namespace Go.Proofs.YtkehpnobidendaaDoor
open Go.RowKit

theorem pref_long : ∀ (a b : List ByteArray), b.length < a.length → isPrefix a b = false
  | [], _, h => by simp at h
  | _ :: _, [], _ => rfl
  | x :: r, y :: s, h => by simp only [isPrefix]; rw [pref_long r s (by simpa using h)]; simp
theorem pref_no : ∀ (a b : List ByteArray) (i : Nat) (ha : i < a.length) (hb : i < b.length), (a[i].toList == b[i].toList) = false → isPrefix a b = false
  | [], _, _, h, _, _ => by simp at h
  | _ :: _, [], _, _, _, _ => rfl
  | x :: r, y :: s, 0, _, _, h => by simp only [List.getElem_cons_zero] at h; simp only [isPrefix, h, Bool.false_and]
  | x :: r, y :: s, i + 1, ha, hb, h => by
    simp only [List.getElem_cons_succ] at h
    simp only [isPrefix]
    rw [pref_no r s i (by simpa using ha) (by simpa using hb) h]; simp
theorem pref_yes : ∀ (a b : List ByteArray), a.length ≤ b.length → (∀ (i : Nat) (ha : i < a.length) (hb : i < b.length), (a[i].toList == b[i].toList) = true) → isPrefix a b = true
  | [], _, _, _ => by unfold isPrefix; rfl
  | _ :: _, [], h, _ => by simp at h
  | x :: r, y :: s, h, hh => by
    simp only [isPrefix]
    have h0 := hh 0 (by simp) (by simp)
    simp only [List.getElem_cons_zero] at h0
    rw [h0, pref_yes r s (by simpa using h) (fun i ha hb => by have := hh (i + 1) (by simpa using ha) (by simpa using hb); simpa using this)]
    rfl
set_option maxRecDepth 100000 in
set_option maxHeartbeats 2000000 in
theorem kprefix (w : World) (Sa Sb : Nat → Prop) (va vb : Value) (la lb : List ByteArray) (ha : Row w Sa 9 1 va la.length (la.flatMap scells)) (hb : Row w Sb 9 1 vb lb.length (lb.flatMap scells)) (hla : la.length ≤ 1700000000000) :
    Calls Tryd.prog 41 #[va, vb] w fun e w' => e = .returned (.bool (isPrefix la lb)) ∧ Below w.heap.size w w' := by
  obtain ⟨a, ca, rfl⟩ := ha.isSlice
  obtain ⟨b, cb, rfl⟩ := hb.isSlice
  by_cases hl : lb.length < la.length
  · rw [pref_long la lb hl]
    clear ha hb
    go_enter Tryd.func41, Tryd.ntmps41
    go_wp2
    go_ret
    exact ⟨rfl, Below.refl _ _⟩
  · have HA : Hid (Row w Sa 9 1 (.slice a la.length ca) la.length (la.flatMap scells)) := ha
    have HB : Hid (Row w Sb 9 1 (.slice b lb.length cb) lb.length (lb.flatMap scells)) := hb
    clear ha hb
    have hs1 : ∀ c, (scells c).length = 1 := fun _ => rfl
    go_enter Tryd.func41, Tryd.ntmps41
    go_wp2
    go_loopw [5] (fun i wr => ∃ k : Nat, k ≤ la.length ∧ i = .int .i64 k ∧ Hid (Below w.heap.size w wr) ∧ Hid (∀ (j : Nat) (h1 : j < la.length) (h2 : j < lb.length), j < k → (la[j].toList == lb[j].toList) = true)) (fun i _ => la.length - (intOf i).toNat)
    case atStart => exact ⟨0, by omega, rfl, Below.refl _ _, fun j _ _ h => by omega⟩
    case round =>
      obtain ⟨k, hk, rfl, hbw, hyes⟩ := hrel
      by_cases hlt : k < la.length
      · have hlt2 : k < lb.length := by omega
        obtain ⟨ga, oa, rfl, _, hga, hca⟩ := HA.out.place (by omega)
        obtain ⟨gb, ob, rfl, _, hgb, hcb⟩ := HB.out.place (by omega)
        have qa : wr.cell? ⟨ga, oa + k, none⟩ = some (.string la[k]) := by
          have := HA.out.elem hs1 k 0 hlt (by omega)
          rw [show oa + k = oa + k * 1 + 0 by omega]
          exact (hbw.out.cell (p := ⟨ga, oa + k * 1 + 0, none⟩) hga).trans (this.trans rfl)
        have qb : wr.cell? ⟨gb, ob + k, none⟩ = some (.string lb[k]) := by
          have := HB.out.elem hs1 k 0 hlt2 (by omega)
          rw [show ob + k = ob + k * 1 + 0 by omega]
          exact (hbw.out.cell (p := ⟨gb, ob + k * 1 + 0, none⟩) hgb).trans (this.trans rfl)
        rcases Bool.eq_false_or_eq_true (la[k].toList == lb[k].toList) with e3 | e3
        · have HN : Hid (∀ (j : Nat) (h1 : j < la.length) (h2 : j < lb.length), j < k + 1 → (la[j].toList == lb[j].toList) = true) := fun j h1 h2 hj => by
            by_cases hj' : j < k
            · exact hyes.out j h1 h2 hj'
            · have e : j = k := by omega
              subst e; exact e3
          generalize la[k] = xa at *
          generalize lb[k] = xb at *
          go_wp2
          go_quiet (fail)
          go_wp2
          go_roundw
          case rel => exact ⟨k + 1, by omega, by go_num, below_drewN hbw.out _, HN.out⟩
          case measure => simp [intOf]; omega
        · have HF : Hid (isPrefix la lb = false) := pref_no la lb k hlt hlt2 e3
          generalize la[k] = xa at *
          generalize lb[k] = xb at *
          go_wp2
          go_quiet (fail)
          go_wp2
          go_ret
          rw [HF.out]
          exact ⟨rfl, below_drewN hbw.out _⟩
      · have HF : Hid (isPrefix la lb = true) := pref_yes la lb (by omega) (fun j h1 h2 => hyes.out j h1 h2 (by omega))
        go_wp2
        go_ret
        rw [HF.out]
        exact ⟨rfl, hbw.out⟩
end Go.Proofs.YtkehpnobidendaaDoor
