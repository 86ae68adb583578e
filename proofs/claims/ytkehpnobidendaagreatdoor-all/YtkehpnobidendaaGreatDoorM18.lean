/- maps.DeleteFunc at the program's two maps: what the predicate names is struck, whatever the order. -/
import Derived.Test.YtkehpnobidendaaGreatDoorM17
import Derived.Laws.IdiomRangeMap
import Derived.Deep.LoopGhost
namespace Go.Proofs.YtkehpnobidendaaGreatDoor
open Go.RowKit Go.Maps

/-- The values of a record of a view, and of a roll. -/
structure Rl where
  a : Bool
  b : Bool
  c : Bool
  d : Bool
  deriving DecidableEq
structure Vr where
  p : Bool
  r : Rl
  deriving DecidableEq
def recV (b : Vr) : Value := .agg #[.bool b.p, .bool b.r.a, .bool b.r.b, .bool b.r.c, .bool b.r.d]
def rollV (b : Rl) : Value := .agg #[.bool b.a, .bool b.b, .bool b.c, .bool b.d]
def isRec (v : Value) : Prop := ∃ b, v = recV b
def isRoll (v : Value) : Prop := ∃ b, v = rollV b
theorem rv_inv {sh : Value → Prop} {v : Value} {y : DataW Value × List MemPlace} (h : RV sh v = some y) : sh v := (RV_inv h).1
theorem grown_setCell {w w' : World} {row : Option Nat} {a : Addr} {v : Value} (h : w.grownBy w' row) (ha : w.heap.size ≤ a.block) : w.grownBy (w'.setCell a v) row :=
  ⟨h.os, h.tape, h.output, by rw [World.size_setCell]; exact h.size, fun i hi hn => (Below.heap_setCell w' a v i (by omega)).trans (h.block i hi hn)⟩

set_option maxHeartbeats 4000000 in
set_option maxRecDepth 100000 in
theorem pdelViews (B b n : Nat) (f : Int → Option Value) (p : Int → Bool) (w : World) (h : IMap Tryz.prog 3 .i64 isRec w b n f)
    (hdel : ∀ (W : World) (x : Int) (v : Vr), w.grownBy W (some b) → (Lit.int .i64 x).wf = true →
      Calls Tryz.prog 91 #[.int .i64 x, recV v, .pointer (some ⟨B, 0, none⟩)] W fun e w' => e = .returned (.bool (p x)) ∧ W.grownBy w' none) :
    Calls Tryz.prog 90 #[.map (some b), .func (.func 91) #[] #[.pointer (some ⟨B, 0, none⟩)]] w fun e w' =>
      e = .returned (.tuple #[]) ∧ IMap Tryz.prog 3 .i64 isRec w' b n (fun x => if p x then none else f x) ∧ w.grownBy w' (some b) := by
  obtain ⟨D, hown, htells⟩ := h
  have HT : Hid (Tells .i64 D f) := htells
  clear htells
  have K : Keyed Tryz.prog 3 := int_keyed Tryz.underlying3
  obtain ⟨es0, rfl, hap, hkeys⟩ := hown.entries K
  have HD : Hid _ := hdel
  clear hdel
  let pd : Lit → DataW Value → Bool := fun l _ => match l with | .int .i64 x => p x | _ => false
  go_enter Tryz.func90, Tryz.ntmps90
  go_wp2_with (first
    | (at_range; refine wpList_range_own _ rfl _ 80 rfl 3 121 K Tryz.underlying80 (RV isRec) b n _ rfl hown ?_; intro w0 hrg0 hg0 hs0)
    | go_in)
  go_frame
  go_loopw [8] (fun _ wr => ∃ (left : Lit → Bool) (cnt : Nat), wr.ranges Tryz.prog 3 (RV isRec) b w.heap.size n (Fk pd es0 left) left cnt ∧ w.grownBy wr (some b))
    (fun _ wr => wr.rangeLeft b w.heap.size)
  case atStart => exact ⟨_, _, by rw [Fk_start hkeys]; exact hrg0, hg0.but _⟩
  case round =>
    obtain ⟨left, cnt, hrg, hgw⟩ := hrel
    go_wp2_with (first
      | (at_next; refine wpList_next_ranges _ rfl _ rfl 3 K (RV isRec) (Value.int .i64) recV (fun key kl hk => by obtain ⟨x, rfl, _⟩ := Maps.keyOf_int_inv Tryz.underlying3 hk; exact ⟨x, rfl⟩) (fun v y hv => rv_inv hv) b w.heap.size n _ _ _ rfl hrg ?_ ?_)
      | go_in)
    · intro _ hl0
      go_wp2
      go_end0
      exact ⟨rfl, ⟨_, by rw [← Fk_end hl0]; exact hrg.owns, HT.out.filter p pd (fun _ _ => rfl)⟩, hgw⟩
    · intro x c kl yd yp w1 cnt1 hkey hlx hv hat hrg1 hlt hg1 hs1 hen
      have hgw1 := hgw.andThen hg1 (fun j hj => by cases hj; exact Or.inl (Nat.le_refl _))
      obtain ⟨x', hx', hkl, hwf⟩ := Maps.keyOf_int_inv Tryz.underlying3 hkey
      cases hx'
      subst hkl
      have hbl := hrg1.owns.lt
      have hrl := hrg1.lt
      have hat0 := hat
      clear hv hat
      obtain ⟨cp, ca, cb, cc, cd⟩ := c
      dsimp only [recV] at hen ⊢
      have HDD : Hid (∀ W : World, w.grownBy W (some b) → Calls Tryz.prog 91 #[.int .i64 x, .agg #[.bool cp, .bool ca, .bool cb, .bool cc, .bool cd], .pointer (some ⟨B, 0, none⟩)] W fun e w' => e = .returned (.bool (p x)) ∧ W.grownBy w' none) := fun W hW => HD.out W x ⟨cp, ca, cb, cc, cd⟩ hW hwf
      have hal : w1.grownBy (w1.alloc (.cells #[.bool cp, .bool ca, .bool cb, .bool cc, .bool cd] 121)) none := World.grownBy_alloc _ _ _
      have hrg2 := hrg1.kept hal (by simp) (by simp)
      have hgw2 := hgw1.andThen hal (fun j hj => by cases hj)
      have HW2 : Hid (w.grownBy (w1.alloc (.cells #[.bool cp, .bool ca, .bool cb, .bool cc, .bool cd] 121)) (some b)) := hgw2
      have HAT : Hid (∀ (zd : DataW Value), (Fk pd es0 left).atKey (.int .i64 x) zd = yd) := hat0
      clear hrg1 hgw2 hal hat0
      cases hp : p x
      · go_wp2_with (first | (go_at_call 91; refine (HDD.out _ HW2.out).mono ?_; rintro e w3 ⟨rfl, hg3⟩; rw [hp]) | go_in)
        have hrg3 := hrg2.kept hg3 (by simp) (by simp)
        go_roundw
        case rel => exact ⟨_, cnt1, by rw [← Fk_stays hap (K.key hkey) hlx (d := yd) hp HAT.out]; exact hrg3, HW2.out.andThen hg3 (fun j hj => by cases hj)⟩
        case measure => rw [hrg3.left_eq, hrg.left_eq]; exact hlt
      · go_wp2_with (first
          | (go_at_call 91; refine (HDD.out _ HW2.out).mono ?_; rintro e w3 ⟨rfl, hg3⟩; rw [hp]; have hrg3 := hrg2.kept hg3 (by simp) (by simp))
          | (at_delete; refine wpList_delete_ranges _ rfl _ _ 80 3 rfl 121 K Tryz.underlying80 (RV isRec) b w.heap.size n _ _ _ rfl hrg3 _ _ rfl hkey ?_; intro w4 cnt4 hrg4 hle hturn; go_frame)
          | go_in)
        rw [strike_twice] at hrg4
        go_roundw
        case rel => exact ⟨_, cnt4, by rw [← Fk_struck hap (K.key hkey) hlx (d := yd) hp HAT.out]; exact hrg4, (HW2.out.andThen hg3 (fun j hj => by cases hj)).andThen hturn.grown (fun j hj => by cases hj; exact Or.inr rfl)⟩
        case measure => rw [hrg4.left_eq, hrg.left_eq]; omega
set_option maxHeartbeats 4000000 in
set_option maxRecDepth 100000 in
theorem pdelVotes (B b n : Nat) (f : Int → Option Value) (p : Int → Bool) (w : World) (h : IMap Tryz.prog 36 .u64 isRoll w b n f)
    (hdel : ∀ (W : World) (x : Int) (v : Rl), w.grownBy W (some b) → (Lit.int .u64 x).wf = true →
      Calls Tryz.prog 93 #[.int .u64 x, rollV v, .pointer (some ⟨B, 0, none⟩)] W fun e w' => e = .returned (.bool (p x)) ∧ W.grownBy w' none) :
    Calls Tryz.prog 92 #[.map (some b), .func (.func 93) #[] #[.pointer (some ⟨B, 0, none⟩)]] w fun e w' =>
      e = .returned (.tuple #[]) ∧ IMap Tryz.prog 36 .u64 isRoll w' b n (fun x => if p x then none else f x) ∧ w.grownBy w' (some b) := by
  obtain ⟨D, hown, htells⟩ := h
  have HT : Hid (Tells .u64 D f) := htells
  clear htells
  have K : Keyed Tryz.prog 36 := int_keyed Tryz.underlying36
  obtain ⟨es0, rfl, hap, hkeys⟩ := hown.entries K
  have HD : Hid _ := hdel
  clear hdel
  let pd : Lit → DataW Value → Bool := fun l _ => match l with | .int .u64 x => p x | _ => false
  go_enter Tryz.func92, Tryz.ntmps92
  go_wp2_with (first
    | (at_range; refine wpList_range_own _ rfl _ 79 rfl 36 119 K Tryz.underlying79 (RV isRoll) b n _ rfl hown ?_; intro w0 hrg0 hg0 hs0)
    | go_in)
  go_frame
  go_loopw [8] (fun _ wr => ∃ (left : Lit → Bool) (cnt : Nat), wr.ranges Tryz.prog 36 (RV isRoll) b w.heap.size n (Fk pd es0 left) left cnt ∧ w.grownBy wr (some b))
    (fun _ wr => wr.rangeLeft b w.heap.size)
  case atStart => exact ⟨_, _, by rw [Fk_start hkeys]; exact hrg0, hg0.but _⟩
  case round =>
    obtain ⟨left, cnt, hrg, hgw⟩ := hrel
    go_wp2_with (first
      | (at_next; refine wpList_next_ranges _ rfl _ rfl 36 K (RV isRoll) (Value.int .u64) rollV (fun key kl hk => by obtain ⟨x, rfl, _⟩ := Maps.keyOf_int_inv Tryz.underlying36 hk; exact ⟨x, rfl⟩) (fun v y hv => rv_inv hv) b w.heap.size n _ _ _ rfl hrg ?_ ?_)
      | go_in)
    · intro _ hl0
      go_wp2
      go_end0
      exact ⟨rfl, ⟨_, by rw [← Fk_end hl0]; exact hrg.owns, HT.out.filter p pd (fun _ _ => rfl)⟩, hgw⟩
    · intro x c kl yd yp w1 cnt1 hkey hlx hv hat hrg1 hlt hg1 hs1 hen
      have hgw1 := hgw.andThen hg1 (fun j hj => by cases hj; exact Or.inl (Nat.le_refl _))
      obtain ⟨x', hx', hkl, hwf⟩ := Maps.keyOf_int_inv Tryz.underlying36 hkey
      cases hx'
      subst hkl
      have hbl := hrg1.owns.lt
      have hrl := hrg1.lt
      have hat0 := hat
      clear hv hat
      obtain ⟨ca, cb, cc, cd⟩ := c
      dsimp only [rollV] at hen ⊢
      have HDD : Hid (∀ W : World, w.grownBy W (some b) → Calls Tryz.prog 93 #[.int .u64 x, .agg #[.bool ca, .bool cb, .bool cc, .bool cd], .pointer (some ⟨B, 0, none⟩)] W fun e w' => e = .returned (.bool (p x)) ∧ W.grownBy w' none) := fun W hW => HD.out W x ⟨ca, cb, cc, cd⟩ hW hwf
      have hal : w1.grownBy (w1.alloc (.cells #[.bool ca, .bool cb, .bool cc, .bool cd] 119)) none := World.grownBy_alloc _ _ _
      have hrg2 := hrg1.kept hal (by simp) (by simp)
      have hgw2 := hgw1.andThen hal (fun j hj => by cases hj)
      have HW2 : Hid (w.grownBy (w1.alloc (.cells #[.bool ca, .bool cb, .bool cc, .bool cd] 119)) (some b)) := hgw2
      have HAT : Hid (∀ (zd : DataW Value), (Fk pd es0 left).atKey (.int .u64 x) zd = yd) := hat0
      clear hrg1 hgw2 hal hat0
      cases hp : p x
      · go_wp2_with (first | (go_at_call 93; refine (HDD.out _ HW2.out).mono ?_; rintro e w3 ⟨rfl, hg3⟩; rw [hp]) | go_in)
        have hrg3 := hrg2.kept hg3 (by simp) (by simp)
        go_roundw
        case rel => exact ⟨_, cnt1, by rw [← Fk_stays hap (K.key hkey) hlx (d := yd) hp HAT.out]; exact hrg3, HW2.out.andThen hg3 (fun j hj => by cases hj)⟩
        case measure => rw [hrg3.left_eq, hrg.left_eq]; exact hlt
      · go_wp2_with (first
          | (go_at_call 93; refine (HDD.out _ HW2.out).mono ?_; rintro e w3 ⟨rfl, hg3⟩; rw [hp]; have hrg3 := hrg2.kept hg3 (by simp) (by simp))
          | (at_delete; refine wpList_delete_ranges _ rfl _ _ 79 36 rfl 119 K Tryz.underlying79 (RV isRoll) b w.heap.size n _ _ _ rfl hrg3 _ _ rfl hkey ?_; intro w4 cnt4 hrg4 hle hturn; go_frame)
          | go_in)
        rw [strike_twice] at hrg4
        go_roundw
        case rel => exact ⟨_, cnt4, by rw [← Fk_struck hap (K.key hkey) hlx (d := yd) hp HAT.out]; exact hrg4, (HW2.out.andThen hg3 (fun j hj => by cases hj)).andThen hturn.grown (fun j hj => by cases hj; exact Or.inr rfl)⟩
        case measure => rw [hrg4.left_eq, hrg.left_eq]; omega
end Go.Proofs.YtkehpnobidendaaGreatDoor
