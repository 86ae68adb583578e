/- A record's slice that is a new one now. -/
import Derived.Test.YtkehpnobidendaaDoorM06
namespace Go.Proofs.YtkehpnobidendaaDoor
open Go.RowKit

/-- A slice of it is another one now, in a block that it had not. -/
theorem Bun.fresh {N : Nat} {w : World} {p : Nat} {T : TypeId} {S : Nat → Prop} {C C' : Array Value} {V V' : List Value} {E : List (TypeId × Nat)} {X X' : List (Nat × List Value)} (h : Bun w p T S C V E X)
    (i : Nat) {v : Value} {e : TypeId × Nat} (hv : V[i]? = some v) (he : E[i]? = some e) (v' : Value) (x' : Nat × List Value) (hr : Row w (fun k => N ≤ k) e.1 e.2 v' x'.1 x'.2) (hN : ∀ k, S k → k < N)
    (o : Nat) (hC : C.setIfInBounds o v' = C') (hV : V.set i v' = V') (hX : X.set i x' = X') : Bun (w.setCell ⟨p, o, none⟩ v') p T (fun k => S k ∨ v'.ownBlock = some k) C' V' E X' := by
  subst hC hV hX
  have hbp : w.heap[p]? = some (.cells C T (0, 0)) := h.box
  have hne : ∀ k, v'.ownBlock = some k → k ≠ p := fun k hk e => by
    have h1 : N ≤ k := (hr.ownS hk).1
    have h2 := hN p h.sp
    omega
  have hother : ∀ (j : Nat) (u : Value) (k : Nat), V[j]? = some u → u.ownBlock = some k → v'.ownBlock ≠ some k := fun j u k hu hk hk' => by
    have h1 : N ≤ k := (hr.ownS hk').1
    have h2 := hN k (h.own hu hk).1
    omega
  refine ⟨.inl h.sp, heap_store hbp _, fun j u e' x h1 h2 h3 => ?_, fun j u h1 => ?_, fun j l u t k h1 h2 hjl => ?_, by simpa using h.all, fun k hk => ?_⟩
  · rw [List.getElem?_set] at h1 h3
    by_cases hij : i = j
    · subst hij
      rw [if_pos rfl, if_pos (List.getElem?_eq_some_iff.1 hv).1] at h1
      cases h1
      rw [if_pos rfl] at h3
      split at h3
      · cases h3
        rw [he] at h2; cases h2
        refine ⟨hr.1, ?_⟩
        rcases hr.2 with hn | ⟨g, off, cap, cur, rfl, hS, hg, rest⟩
        · exact .inl hn
        · exact .inr ⟨g, off, cap, cur, rfl, .inr rfl, by rw [heap_store_ne _ (hne g rfl)]; exact hg, rest⟩
      · cases h3
    · rw [if_neg hij] at h1 h3
      have hr' := h.row j u e' x h1 h2 h3
      refine ⟨hr'.1, ?_⟩
      rcases hr'.2 with hn | ⟨g, off, cap, cur, rfl, hS, hg, rest⟩
      · exact .inl hn
      · have hgp : g ≠ p := fun e => h.off j _ h1 (by rw [← e]; rfl)
        refine .inr ⟨g, off, cap, cur, rfl, .inl hS, ?_, rest⟩
        rw [heap_store_ne _ hgp]
        exact hg
  · rw [List.getElem?_set] at h1
    split at h1
    · split at h1
      · cases h1; exact fun e => hne p e rfl
      · cases h1
    · exact h.off j u h1
  · rw [List.getElem?_set] at h1 h2
    by_cases hij : i = j
    · subst hij
      rw [if_pos rfl, if_pos (List.getElem?_eq_some_iff.1 hv).1] at h1
      rw [if_neg hjl] at h2
      cases h1
      exact fun hk hk' => hother l t k h2 hk' hk
    · rw [if_neg hij] at h1
      by_cases hil : i = l
      · subst hil
        rw [if_pos rfl, if_pos (List.getElem?_eq_some_iff.1 hv).1] at h2
        cases h2
        exact fun hk => hother j u k h1 hk
      · rw [if_neg hil] at h2
        exact h.apart j l u t k h1 h2 hjl
  · rw [World.size_setCell]
    rcases hk with hk | hk
    · exact h.lt k hk
    · exact (hr.ownS hk).2
end Go.Proofs.YtkehpnobidendaaDoor
