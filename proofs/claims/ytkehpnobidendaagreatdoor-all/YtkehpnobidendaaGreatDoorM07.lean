/- A step of the script, opened: what reads as a record of the law's own type holds twenty-five cells of the right kinds. -/
import Derived.Test.YtkehpnobidendaaGreatDoorM06
import Derived.ProofKit
import Derived.OpenShut
import Derived.Deep.Slices
import Derived.SizedLaws
namespace Go.Proofs.YtkehpnobidendaaGreatDoor
open Go.ChangeShapes Go.WideShapes Go.ChangeAt Go.RowKit

theorem cellsInt : Tryz.prog.cellsOf 3 = 1 := by kernel_rfl
theorem cellsStr : Tryz.prog.cellsOf 9 = 1 := by kernel_rfl
theorem cellsU64 : Tryz.prog.cellsOf 36 = 1 := by kernel_rfl
theorem cellsMsg : Tryz.prog.cellsOf 43 = 19 := by kernel_rfl
theorem cellsBlk : Tryz.prog.cellsOf 41 = 8 := by kernel_rfl
theorem cellsCert : Tryz.prog.cellsOf 39 = 6 := by kernel_rfl
theorem cellsArr : Tryz.prog.cellsOf 37 = 4 := by kernel_rfl
theorem cellsOp : Tryz.prog.cellsOf 45 = 25 := by kernel_rfl

/-- Every text and list within is of a length that the form takes. -/
def Fits {H : Type} (P : Program) (t : TypeId) (d : DataW H) : Prop := ∀ n ∈ d.weights P t, n ≤ reachBytes

section
variable {H : Type} {enc : TypeId × Value → H} {P : Program} {w : World} {base : Nat} {spare : Nat → Bool} {held : Bool} {fuel : Nat} {t : TypeId} {cs : List Value} {x : DataW H × List MemPlace}
theorem struct_fields {fs : Array Field} (ht : P.underlying t = some (.struct fs)) (hx : Fits P t x.1) (h : DataW.trod enc P w base spare held fuel t cs = some x) :
    cs.length = P.cellsOf t ∧ ∃ m, ∀ (i : Nat) (f : Field), fs[i]? = some f → ∃ y, DataW.trod enc P w base spare held m f.type ((cs.drop f.offset).take (P.cellsOf f.type)) = some y ∧ Fits P f.type y.1 := by
  obtain ⟨xs, m, _, rfl, hl, hlen, hf⟩ := DataW.trod_struct ht h
  refine ⟨hl, m, fun i f hi => ?_⟩
  have hlt : i < xs.length := by rw [hlen]; exact (Array.getElem?_eq_some_iff.1 hi).1
  refine ⟨xs[i], by rw [hf i f hi]; exact List.getElem?_eq_getElem hlt, fun n hn => hx n ?_⟩
  simp only [DataW.weights, ht]
  exact DataW.weights_mem_each (j := i) (t := f.type) (d := xs[i].1) (by simp [hi]) (by simp [hlt]) n hn
theorem array_fields {n : Nat} {e : TypeId} (ht : P.underlying t = some (.array n e)) (h : DataW.trod enc P w base spare held fuel t cs = some x) :
    ∃ m, ∀ (i : Nat), i < n → ∃ y, DataW.trod enc P w base spare held m e ((cs.drop (i * P.cellsOf e)).take (P.cellsOf e)) = some y := by
  obtain ⟨xs, m, _, _, hl, hlen, hf⟩ := DataW.trod_array ht h
  refine ⟨m, fun i hi => ⟨xs[i]'(by omega), by rw [hf i hi]; exact List.getElem?_eq_getElem (by omega)⟩⟩
theorem isInt {c : Value} (ht : P.underlying t = some (.int .i64)) (h : DataW.trod enc P w base spare held fuel t [c] = some x) : ∃ z : Int, c = .int .i64 z ∧ (-9223372036854775808 ≤ z ∧ z ≤ 9223372036854775807) := by
  obtain ⟨n, e, _, hw⟩ := DataW.trod_int ht h
  simp only [List.cons.injEq, and_true] at e
  exact ⟨n, e, bounds_i64 hw⟩
theorem isU64 {c : Value} (ht : P.underlying t = some (.int .u64)) (h : DataW.trod enc P w base spare held fuel t [c] = some x) : ∃ z : Nat, c = .int .u64 z ∧ z < 18446744073709551616 := by
  obtain ⟨n, e, _, hw⟩ := DataW.trod_int ht h
  simp only [List.cons.injEq, and_true] at e
  have hb := bounds_u64 hw
  exact ⟨n.toNat, by rw [e]; congr 1; omega, by omega⟩
theorem isStr {c : Value} (ht : P.underlying t = some .string) (hx : Fits P t x.1) (h : DataW.trod enc P w base spare held fuel t [c] = some x) : ∃ s : ByteArray, c = .string s ∧ s.size ≤ 140737488351232 := by
  obtain ⟨n, e, rfl, _⟩ := DataW.trod_string ht h
  simp only [List.cons.injEq, and_true] at e
  exact ⟨n, e, hx _ (by simp [DataW.weights])⟩
end

theorem list25 (cs : List Value) (h : cs.length = 25) : ∃ x0 x1 x2 x3 x4 x5 x6 x7 x8 x9 x10 x11 x12 x13 x14 x15 x16 x17 x18 x19 x20 x21 x22 x23 x24, cs = [x0, x1, x2, x3, x4, x5, x6, x7, x8, x9, x10, x11, x12, x13, x14, x15, x16, x17, x18, x19, x20, x21, x22, x23, x24] := by
  match cs, h with
  | [x0, x1, x2, x3, x4, x5, x6, x7, x8, x9, x10, x11, x12, x13, x14, x15, x16, x17, x18, x19, x20, x21, x22, x23, x24], _ => exact ⟨_, _, _, _, _, _, _, _, _, _, _, _, _, _, _, _, _, _, _, _, _, _, _, _, _, rfl⟩

set_option maxRecDepth 100000 in
set_option maxHeartbeats 1000000 in
theorem op_of_trod {H : Type} {enc : TypeId × Value → H} {w : World} {base : Nat} {spare : Nat → Bool} {held : Bool} {fuel : Nat} {cs : List Value} {x : DataW H × List MemPlace}
    (hx : Fits Tryz.prog 45 x.1) (h : DataW.trod enc Tryz.prog w base spare held fuel 45 cs = some x) : ∃ o : OpD, o.Ok ∧ cs = o.cells.toList := by
  obtain ⟨hl, m, hf⟩ := struct_fields Tryz.underlying45 hx h
  rw [cellsOp] at hl
  obtain ⟨x0, x1, x2, x3, x4, x5, x6, x7, x8, x9, x10, x11, x12, x13, x14, x15, x16, x17, x18, x19, x20, x21, x22, x23, x24, rfl⟩ := list25 cs hl
  clear h hl
  obtain ⟨yh0, h0, fh0⟩ : ∃ y, DataW.trod enc Tryz.prog w base spare held m 3 [x0] = some y ∧ Fits Tryz.prog 3 y.1 := by simpa [cellsInt] using hf 0 _ rfl
  obtain ⟨yh1, h1, fh1⟩ : ∃ y, DataW.trod enc Tryz.prog w base spare held m 3 [x1] = some y ∧ Fits Tryz.prog 3 y.1 := by simpa [cellsInt] using hf 1 _ rfl
  obtain ⟨yh2, h2, fh2⟩ : ∃ y, DataW.trod enc Tryz.prog w base spare held m 3 [x2] = some y ∧ Fits Tryz.prog 3 y.1 := by simpa [cellsInt] using hf 2 _ rfl
  obtain ⟨yh3, h3, fh3⟩ : ∃ y, DataW.trod enc Tryz.prog w base spare held m 3 [x3] = some y ∧ Fits Tryz.prog 3 y.1 := by simpa [cellsInt] using hf 3 _ rfl
  obtain ⟨yh4, h4, fh4⟩ : ∃ y, DataW.trod enc Tryz.prog w base spare held m 9 [x4] = some y ∧ Fits Tryz.prog 9 y.1 := by simpa [cellsStr] using hf 4 _ rfl
  obtain ⟨yh5, h5, fh5⟩ : ∃ y, DataW.trod enc Tryz.prog w base spare held m 36 [x5] = some y ∧ Fits Tryz.prog 36 y.1 := by simpa [cellsU64] using hf 5 _ rfl
  obtain ⟨yhM, hM, fhM⟩ : ∃ y, DataW.trod enc Tryz.prog w base spare held m 43 [x6, x7, x8, x9, x10, x11, x12, x13, x14, x15, x16, x17, x18, x19, x20, x21, x22, x23, x24] = some y ∧ Fits Tryz.prog 43 y.1 := by simpa [cellsMsg] using hf 6 _ rfl
  obtain ⟨_, m1, hm⟩ := struct_fields Tryz.underlying43 fhM hM
  obtain ⟨yh6, h6, fh6⟩ : ∃ y, DataW.trod enc Tryz.prog w base spare held m1 3 [x6] = some y ∧ Fits Tryz.prog 3 y.1 := by simpa [cellsInt] using hm 0 _ rfl
  obtain ⟨yh7, h7, fh7⟩ : ∃ y, DataW.trod enc Tryz.prog w base spare held m1 3 [x7] = some y ∧ Fits Tryz.prog 3 y.1 := by simpa [cellsInt] using hm 1 _ rfl
  obtain ⟨yh8, h8, fh8⟩ : ∃ y, DataW.trod enc Tryz.prog w base spare held m1 3 [x8] = some y ∧ Fits Tryz.prog 3 y.1 := by simpa [cellsInt] using hm 2 _ rfl
  obtain ⟨yhB, hB, fhB⟩ : ∃ y, DataW.trod enc Tryz.prog w base spare held m1 41 [x9, x10, x11, x12, x13, x14, x15, x16] = some y ∧ Fits Tryz.prog 41 y.1 := by simpa [cellsBlk] using hm 3 _ rfl
  obtain ⟨yh17, h17, fh17⟩ : ∃ y, DataW.trod enc Tryz.prog w base spare held m1 36 [x17] = some y ∧ Fits Tryz.prog 36 y.1 := by simpa [cellsU64] using hm 4 _ rfl
  obtain ⟨yhC, hC, fhC⟩ : ∃ y, DataW.trod enc Tryz.prog w base spare held m1 39 [x18, x19, x20, x21, x22, x23] = some y ∧ Fits Tryz.prog 39 y.1 := by simpa [cellsCert] using hm 5 _ rfl
  obtain ⟨yh24, h24, fh24⟩ : ∃ y, DataW.trod enc Tryz.prog w base spare held m1 36 [x24] = some y ∧ Fits Tryz.prog 36 y.1 := by simpa [cellsU64] using hm 6 _ rfl
  obtain ⟨_, m2, hb⟩ := struct_fields Tryz.underlying41 fhB hB
  obtain ⟨yh9, h9, fh9⟩ : ∃ y, DataW.trod enc Tryz.prog w base spare held m2 3 [x9] = some y ∧ Fits Tryz.prog 3 y.1 := by simpa [cellsInt] using hb 0 _ rfl
  obtain ⟨yhJ, hJ, fhJ⟩ : ∃ y, DataW.trod enc Tryz.prog w base spare held m2 39 [x10, x11, x12, x13, x14, x15] = some y ∧ Fits Tryz.prog 39 y.1 := by simpa [cellsCert] using hb 1 _ rfl
  obtain ⟨yh16, h16, fh16⟩ : ∃ y, DataW.trod enc Tryz.prog w base spare held m2 9 [x16] = some y ∧ Fits Tryz.prog 9 y.1 := by simpa [cellsStr] using hb 2 _ rfl
  obtain ⟨_, m3hJ, hj⟩ := struct_fields Tryz.underlying39 fhJ hJ
  obtain ⟨yh10, h10, fh10⟩ : ∃ y, DataW.trod enc Tryz.prog w base spare held m3hJ 3 [x10] = some y ∧ Fits Tryz.prog 3 y.1 := by simpa [cellsInt] using hj 0 _ rfl
  obtain ⟨yh11, h11, fh11⟩ : ∃ y, DataW.trod enc Tryz.prog w base spare held m3hJ 36 [x11] = some y ∧ Fits Tryz.prog 36 y.1 := by simpa [cellsU64] using hj 1 _ rfl
  obtain ⟨yhJA, hJA, fhJA⟩ : ∃ y, DataW.trod enc Tryz.prog w base spare held m3hJ 37 [x12, x13, x14, x15] = some y ∧ Fits Tryz.prog 37 y.1 := by simpa [cellsArr] using hj 2 _ rfl
  obtain ⟨m4hJ, hja⟩ := array_fields Tryz.underlying37 hJA
  obtain ⟨y, h12⟩ : ∃ y, DataW.trod enc Tryz.prog w base spare held m4hJ 36 [x12] = some y := by simpa [cellsU64] using hja 0 (by omega)
  obtain ⟨y, h13⟩ : ∃ y, DataW.trod enc Tryz.prog w base spare held m4hJ 36 [x13] = some y := by simpa [cellsU64] using hja 1 (by omega)
  obtain ⟨y, h14⟩ : ∃ y, DataW.trod enc Tryz.prog w base spare held m4hJ 36 [x14] = some y := by simpa [cellsU64] using hja 2 (by omega)
  obtain ⟨y, h15⟩ : ∃ y, DataW.trod enc Tryz.prog w base spare held m4hJ 36 [x15] = some y := by simpa [cellsU64] using hja 3 (by omega)
  obtain ⟨_, m3hC, hc⟩ := struct_fields Tryz.underlying39 fhC hC
  obtain ⟨yh18, h18, fh18⟩ : ∃ y, DataW.trod enc Tryz.prog w base spare held m3hC 3 [x18] = some y ∧ Fits Tryz.prog 3 y.1 := by simpa [cellsInt] using hc 0 _ rfl
  obtain ⟨yh19, h19, fh19⟩ : ∃ y, DataW.trod enc Tryz.prog w base spare held m3hC 36 [x19] = some y ∧ Fits Tryz.prog 36 y.1 := by simpa [cellsU64] using hc 1 _ rfl
  obtain ⟨yhCA, hCA, fhCA⟩ : ∃ y, DataW.trod enc Tryz.prog w base spare held m3hC 37 [x20, x21, x22, x23] = some y ∧ Fits Tryz.prog 37 y.1 := by simpa [cellsArr] using hc 2 _ rfl
  obtain ⟨m4hC, hca⟩ := array_fields Tryz.underlying37 hCA
  obtain ⟨y, h20⟩ : ∃ y, DataW.trod enc Tryz.prog w base spare held m4hC 36 [x20] = some y := by simpa [cellsU64] using hca 0 (by omega)
  obtain ⟨y, h21⟩ : ∃ y, DataW.trod enc Tryz.prog w base spare held m4hC 36 [x21] = some y := by simpa [cellsU64] using hca 1 (by omega)
  obtain ⟨y, h22⟩ : ∃ y, DataW.trod enc Tryz.prog w base spare held m4hC 36 [x22] = some y := by simpa [cellsU64] using hca 2 (by omega)
  obtain ⟨y, h23⟩ : ∃ y, DataW.trod enc Tryz.prog w base spare held m4hC 36 [x23] = some y := by simpa [cellsU64] using hca 3 (by omega)
  obtain ⟨z0, e0, w0⟩ := isInt Tryz.underlying3 h0
  obtain ⟨z1, e1, w1⟩ := isInt Tryz.underlying3 h1
  obtain ⟨z2, e2, w2⟩ := isInt Tryz.underlying3 h2
  obtain ⟨z3, e3, w3⟩ := isInt Tryz.underlying3 h3
  obtain ⟨z4, e4, w4⟩ := isStr Tryz.underlying9 fh4 h4
  obtain ⟨z5, e5, w5⟩ := isU64 Tryz.underlying36 h5
  obtain ⟨z6, e6, w6⟩ := isInt Tryz.underlying3 h6
  obtain ⟨z7, e7, w7⟩ := isInt Tryz.underlying3 h7
  obtain ⟨z8, e8, w8⟩ := isInt Tryz.underlying3 h8
  obtain ⟨z9, e9, w9⟩ := isInt Tryz.underlying3 h9
  obtain ⟨z10, e10, w10⟩ := isInt Tryz.underlying3 h10
  obtain ⟨z11, e11, w11⟩ := isU64 Tryz.underlying36 h11
  obtain ⟨z12, e12, w12⟩ := isU64 Tryz.underlying36 h12
  obtain ⟨z13, e13, w13⟩ := isU64 Tryz.underlying36 h13
  obtain ⟨z14, e14, w14⟩ := isU64 Tryz.underlying36 h14
  obtain ⟨z15, e15, w15⟩ := isU64 Tryz.underlying36 h15
  obtain ⟨z16, e16, w16⟩ := isStr Tryz.underlying9 fh16 h16
  obtain ⟨z17, e17, w17⟩ := isU64 Tryz.underlying36 h17
  obtain ⟨z18, e18, w18⟩ := isInt Tryz.underlying3 h18
  obtain ⟨z19, e19, w19⟩ := isU64 Tryz.underlying36 h19
  obtain ⟨z20, e20, w20⟩ := isU64 Tryz.underlying36 h20
  obtain ⟨z21, e21, w21⟩ := isU64 Tryz.underlying36 h21
  obtain ⟨z22, e22, w22⟩ := isU64 Tryz.underlying36 h22
  obtain ⟨z23, e23, w23⟩ := isU64 Tryz.underlying36 h23
  obtain ⟨z24, e24, w24⟩ := isU64 Tryz.underlying36 h24
  subst e0 e1 e2 e3 e4 e5 e6 e7 e8 e9 e10 e11 e12 e13 e14 e15 e16 e17 e18 e19 e20 e21 e22 e23 e24
  exact ⟨⟨z0, z1, z2, z3, z4, z5, z6, z7, z8, z9, z10, z11, z12, z13, z14, z15, z16, z17, z18, z19, z20, z21, z22, z23, z24⟩, ⟨w0.1, w0.2, w1.1, w1.2, w2.1, w2.2, w3.1, w3.2, w5, w9.1, w9.2, w11, w16, w18.1, w18.2, w19, w4, w6.1, w6.2, w7.1, w7.2, w8.1, w8.2, w10.1, w10.2, (by show (0 : Int) ≤ (z17 : Nat); omega), (by show ((z17 : Nat) : Int) < 18446744073709551616; omega)⟩, rfl⟩

end Go.Proofs.YtkehpnobidendaaGreatDoor
