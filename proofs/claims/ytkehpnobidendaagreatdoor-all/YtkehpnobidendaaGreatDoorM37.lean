/- A region of nine operations whose last one sends, in every order. -/
import Derived.Test.YtkehpnobidendaaGreatDoorM23
namespace Go.Proofs.YtkehpnobidendaaGreatDoor
open Go.RowKit Go.Conc

section
variable {P : Program} {ops : Array Oper} {Q : Act → World → Prop} {C : World → Prop} {A : Bool → Bool → Bool → Bool → Bool → Bool → Bool → Bool → Act}
def cnt8 (b0 b1 b2 b3 b4 b5 b6 b7 : Bool) : Nat := (!b0).toNat + (!b1).toNat + (!b2).toNat + (!b3).toNat + (!b4).toNat + (!b5).toNat + (!b6).toNat + (!b7).toNat
theorem cnt8_0 (b1 b2 b3 b4 b5 b6 b7 : Bool) : cnt8 false b1 b2 b3 b4 b5 b6 b7 = cnt8 true b1 b2 b3 b4 b5 b6 b7 + 1 := by unfold cnt8; simp only [Bool.not_false, Bool.not_true, Bool.toNat_true, Bool.toNat_false]; omega
theorem cnt8_1 (b0 b2 b3 b4 b5 b6 b7 : Bool) : cnt8 b0 false b2 b3 b4 b5 b6 b7 = cnt8 b0 true b2 b3 b4 b5 b6 b7 + 1 := by unfold cnt8; simp only [Bool.not_false, Bool.not_true, Bool.toNat_true, Bool.toNat_false]; omega
theorem cnt8_2 (b0 b1 b3 b4 b5 b6 b7 : Bool) : cnt8 b0 b1 false b3 b4 b5 b6 b7 = cnt8 b0 b1 true b3 b4 b5 b6 b7 + 1 := by unfold cnt8; simp only [Bool.not_false, Bool.not_true, Bool.toNat_true, Bool.toNat_false]; omega
theorem cnt8_3 (b0 b1 b2 b4 b5 b6 b7 : Bool) : cnt8 b0 b1 b2 false b4 b5 b6 b7 = cnt8 b0 b1 b2 true b4 b5 b6 b7 + 1 := by unfold cnt8; simp only [Bool.not_false, Bool.not_true, Bool.toNat_true, Bool.toNat_false]; omega
theorem cnt8_4 (b0 b1 b2 b3 b5 b6 b7 : Bool) : cnt8 b0 b1 b2 b3 false b5 b6 b7 = cnt8 b0 b1 b2 b3 true b5 b6 b7 + 1 := by unfold cnt8; simp only [Bool.not_false, Bool.not_true, Bool.toNat_true, Bool.toNat_false]; omega
theorem cnt8_5 (b0 b1 b2 b3 b4 b6 b7 : Bool) : cnt8 b0 b1 b2 b3 b4 false b6 b7 = cnt8 b0 b1 b2 b3 b4 true b6 b7 + 1 := by unfold cnt8; simp only [Bool.not_false, Bool.not_true, Bool.toNat_true, Bool.toNat_false]; omega
theorem cnt8_6 (b0 b1 b2 b3 b4 b5 b7 : Bool) : cnt8 b0 b1 b2 b3 b4 b5 false b7 = cnt8 b0 b1 b2 b3 b4 b5 true b7 + 1 := by unfold cnt8; simp only [Bool.not_false, Bool.not_true, Bool.toNat_true, Bool.toNat_false]; omega
theorem cnt8_7 (b0 b1 b2 b3 b4 b5 b6 : Bool) : cnt8 b0 b1 b2 b3 b4 b5 b6 false = cnt8 b0 b1 b2 b3 b4 b5 b6 true + 1 := by unfold cnt8; simp only [Bool.not_false, Bool.not_true, Bool.toNat_true, Bool.toNat_false]
set_option maxHeartbeats 1000000 in
theorem RS.sched9
    (hr : ∀ b0 b1 b2 b3 b4 b5 b6 b7 : Bool, ((List.range ops.size).filter fun i => !(#[b0, b1, b2, b3, b4, b5, b6, b7, false] : Array Bool).getD i true && ((ops[i]?).map (·.after.all fun e => !Region.binds .any e || (#[b0, b1, b2, b3, b4, b5, b6, b7, false] : Array Bool).getD e.on false)).getD false) =
      (List.range 9).filter fun i => match i with
        | 0 => !b0 | 1 => !b1 | 2 => !b2 | 3 => !b3 && b2 | 4 => !b4 | 5 => !b5 && b4 | 6 => !b6 && b5 | 7 => !b7 && (b1 && b3 && b6) | 8 => b0 && b7 | _ => false)
    (s0 : ∀ rest b1 b2 b3 b4 b5 b6 b7 w, C w → (∀ w', C w' → RS P ops Q rest (A true b1 b2 b3 b4 b5 b6 b7) w') → RS P ops Q (0 :: rest) (A false b1 b2 b3 b4 b5 b6 b7) w)
    (s1 : ∀ rest b0 b2 b3 b4 b5 b6 b7 w, C w → (∀ w', C w' → RS P ops Q rest (A b0 true b2 b3 b4 b5 b6 b7) w') → RS P ops Q (1 :: rest) (A b0 false b2 b3 b4 b5 b6 b7) w)
    (s2 : ∀ rest b0 b1 b3 b4 b5 b6 b7 w, C w → (∀ w', C w' → RS P ops Q rest (A b0 b1 true b3 b4 b5 b6 b7) w') → RS P ops Q (2 :: rest) (A b0 b1 false b3 b4 b5 b6 b7) w)
    (s3 : ∀ rest b0 b1 b4 b5 b6 b7 w, C w → (∀ w', C w' → RS P ops Q rest (A b0 b1 true true b4 b5 b6 b7) w') → RS P ops Q (3 :: rest) (A b0 b1 true false b4 b5 b6 b7) w)
    (s4 : ∀ rest b0 b1 b2 b3 b5 b6 b7 w, C w → (∀ w', C w' → RS P ops Q rest (A b0 b1 b2 b3 true b5 b6 b7) w') → RS P ops Q (4 :: rest) (A b0 b1 b2 b3 false b5 b6 b7) w)
    (s5 : ∀ rest b0 b1 b2 b3 b6 b7 w, C w → (∀ w', C w' → RS P ops Q rest (A b0 b1 b2 b3 true true b6 b7) w') → RS P ops Q (5 :: rest) (A b0 b1 b2 b3 true false b6 b7) w)
    (s6 : ∀ rest b0 b1 b2 b3 b4 b7 w, C w → (∀ w', C w' → RS P ops Q rest (A b0 b1 b2 b3 b4 true true b7) w') → RS P ops Q (6 :: rest) (A b0 b1 b2 b3 b4 true false b7) w)
    (s7 : ∀ rest b0 b2 b4 b5 w, C w → (∀ w', C w' → RS P ops Q rest (A b0 true b2 true b4 b5 true true) w') → RS P ops Q (7 :: rest) (A b0 true b2 true b4 b5 true false) w)
    (s8 : ∀ w, C w → RS P ops Q [8] (A true true true true true true true true) w) :
    ∀ (fuel t : Nat) (b0 b1 b2 b3 b4 b5 b6 b7 : Bool) (w : World), fuel = cnt8 b0 b1 b2 b3 b4 b5 b6 b7 + 1 → ((b3 = true → b2 = true) ∧ (b5 = true → b4 = true) ∧ (b6 = true → b5 = true) ∧ (b7 = true → b1 = true ∧ b3 = true ∧ b6 = true)) → C w →
      RS P ops Q (Region.linearise.go .any ops fuel t #[b0, b1, b2, b3, b4, b5, b6, b7, false] []) (A b0 b1 b2 b3 b4 b5 b6 b7) w := by
  intro fuel
  induction fuel with
  | zero => intro t b0 b1 b2 b3 b4 b5 b6 b7 w h; omega
  | succ fuel ih =>
    intro t b0 b1 b2 b3 b4 b5 b6 b7 w hf hd hC
    simp only [Region.linearise.go]
    rw [hr]
    obtain ⟨rs, hrs⟩ : ∃ rs, rs = (List.range 9).filter fun i => match i with
        | 0 => !b0 | 1 => !b1 | 2 => !b2 | 3 => !b3 && b2 | 4 => !b4 | 5 => !b5 && b4 | 6 => !b6 && b5 | 7 => !b7 && (b1 && b3 && b6) | 8 => b0 && b7 | _ => false := ⟨_, rfl⟩
    rw [← hrs]
    have hmem : ∀ i, i ∈ rs ↔ i < 9 ∧ (match i with
        | 0 => !b0 | 1 => !b1 | 2 => !b2 | 3 => !b3 && b2 | 4 => !b4 | 5 => !b5 && b4 | 6 => !b6 && b5 | 7 => !b7 && (b1 && b3 && b6) | 8 => b0 && b7 | _ => false) = true := fun i => by rw [hrs, List.mem_filter, List.mem_range]
    have hne : rs ≠ [] := by
      intro he
      have no : ∀ i, i ∉ rs := fun i h => by rw [he] at h; cases h
      have n0 := no 0; have n1 := no 1; have n2 := no 2; have n3 := no 3; have n4 := no 4; have n5 := no 5; have n6 := no 6; have n7 := no 7; have n8 := no 8
      rw [hmem] at n0 n1 n2 n3 n4 n5 n6 n7 n8
      simp at n0 n1 n2 n4
      subst n0 n1 n2 n4
      simp at n3 n5
      subst n3 n5
      simp at n6
      subst n6
      simp at n7
      subst n7
      simp at n8
    have hlt : t % rs.length < rs.length := Nat.mod_lt _ (List.length_pos_iff.2 hne)
    rw [List.getElem?_eq_getElem hlt]
    obtain ⟨i, hi⟩ : ∃ i, i = rs[t % rs.length] := ⟨_, rfl⟩
    rw [← hi]
    have him : i ∈ rs := by rw [hi]; exact List.getElem_mem _
    obtain ⟨hi9, hib⟩ := (hmem i).1 him
    simp only []
    rw [linearise_go_acc, List.reverse_singleton, List.singleton_append]
    clear hrs hmem hne hi him hlt
    generalize t / rs.length = t'
    rcases (by omega : i = 0 ∨ i = 1 ∨ i = 2 ∨ i = 3 ∨ i = 4 ∨ i = 5 ∨ i = 6 ∨ i = 7 ∨ i = 8) with rfl | rfl | rfl | rfl | rfl | rfl | rfl | rfl | rfl
    · simp at hib; subst hib
      exact s0 _ _ _ _ _ _ _ _ w hC (fun w' hw' => ih t' true b1 b2 b3 b4 b5 b6 b7 w' (by rw [cnt8_0] at hf; omega) hd hw')
    · simp at hib; subst hib
      exact s1 _ _ _ _ _ _ _ _ w hC (fun w' hw' => ih t' b0 true b2 b3 b4 b5 b6 b7 w' (by rw [cnt8_1] at hf; omega) ⟨hd.1, hd.2.1, hd.2.2.1, fun h => ⟨rfl, (hd.2.2.2 h).2⟩⟩ hw')
    · simp at hib; subst hib
      exact s2 _ _ _ _ _ _ _ _ w hC (fun w' hw' => ih t' b0 b1 true b3 b4 b5 b6 b7 w' (by rw [cnt8_2] at hf; omega) ⟨fun _ => rfl, hd.2⟩ hw')
    · simp at hib; obtain ⟨rfl, rfl⟩ := hib
      exact s3 _ _ _ _ _ _ _ w hC (fun w' hw' => ih t' b0 b1 true true b4 b5 b6 b7 w' (by rw [cnt8_3] at hf; omega) ⟨fun _ => rfl, hd.2.1, hd.2.2.1, fun h => ⟨(hd.2.2.2 h).1, rfl, (hd.2.2.2 h).2.2⟩⟩ hw')
    · simp at hib; subst hib
      exact s4 _ _ _ _ _ _ _ _ w hC (fun w' hw' => ih t' b0 b1 b2 b3 true b5 b6 b7 w' (by rw [cnt8_4] at hf; omega) ⟨hd.1, fun _ => rfl, hd.2.2⟩ hw')
    · simp at hib; obtain ⟨rfl, rfl⟩ := hib
      exact s5 _ _ _ _ _ _ _ w hC (fun w' hw' => ih t' b0 b1 b2 b3 true true b6 b7 w' (by rw [cnt8_5] at hf; omega) ⟨hd.1, fun _ => rfl, fun _ => rfl, hd.2.2.2⟩ hw')
    · simp at hib; obtain ⟨rfl, rfl⟩ := hib
      exact s6 _ _ _ _ _ _ _ w hC (fun w' hw' => ih t' b0 b1 b2 b3 b4 true true b7 w' (by rw [cnt8_6] at hf; omega) ⟨hd.1, hd.2.1, fun _ => rfl, fun h => ⟨(hd.2.2.2 h).1, (hd.2.2.2 h).2.1, rfl⟩⟩ hw')
    · simp at hib; obtain ⟨rfl, ⟨rfl, rfl⟩, rfl⟩ := hib
      exact s7 _ _ _ _ _ w hC (fun w' hw' => ih t' b0 true b2 true b4 b5 true true w' (by rw [cnt8_7] at hf; omega) ⟨hd.1, hd.2.1, hd.2.2.1, fun _ => ⟨rfl, rfl, rfl⟩⟩ hw')
    · simp at hib; obtain ⟨rfl, rfl⟩ := hib
      obtain ⟨e1, e3, e6⟩ := hd.2.2.2 rfl
      have e5 := hd.2.2.1 e6
      have e4 := hd.2.1 e5
      have e2 := hd.1 e3
      subst e1 e2 e3 e4 e5 e6
      have h0 : fuel = 0 := by unfold cnt8 at hf; simp only [Bool.not_true, Bool.toNat_false] at hf; omega
      subst h0
      exact s8 w hC
end
end Go.Proofs.YtkehpnobidendaaGreatDoor
