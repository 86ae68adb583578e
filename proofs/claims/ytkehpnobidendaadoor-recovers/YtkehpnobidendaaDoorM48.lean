/- parleykeep's Recovers: the plain runs, by the kernel. parleykeep's Recovers: the plain runs, by the kernel. parleykeep's Recovers: the plain runs, by the kernel. parleykeep's Recovers: the plain runs, by the kernel. parleykeep's Recovers: every plain run is as it is asked. parleykeep's Recovers: true, whatever the input: the walk and the plain runs. -/
import Derived.Test.YtkehpnobidendaaDoorM47
namespace Go.Proofs.YtkehpnobidendaaDoor
theorem rec_ok_10 : recOk 10 = true := by decide +kernel
theorem rec_ok_11 : recOk 11 = true := by decide +kernel
theorem rec_ok_12 : recOk 12 = true := by decide +kernel
theorem rec_ok_13 : recOk 13 = true := by decide +kernel
theorem rec_ok_14 : recOk 14 = true := by decide +kernel
end Go.Proofs.YtkehpnobidendaaDoor

namespace Go.Proofs.YtkehpnobidendaaDoor
theorem rec_ok_15 : recOk 15 = true := by decide +kernel
theorem rec_ok_16 : recOk 16 = true := by decide +kernel
theorem rec_ok_17 : recOk 17 = true := by decide +kernel
theorem rec_ok_18 : recOk 18 = true := by decide +kernel
theorem rec_ok_19 : recOk 19 = true := by decide +kernel
end Go.Proofs.YtkehpnobidendaaDoor

namespace Go.Proofs.YtkehpnobidendaaDoor
theorem rec_ok_20 : recOk 20 = true := by decide +kernel
theorem rec_ok_21 : recOk 21 = true := by decide +kernel
theorem rec_ok_22 : recOk 22 = true := by decide +kernel
theorem rec_ok_23 : recOk 23 = true := by decide +kernel
theorem rec_ok_24 : recOk 24 = true := by decide +kernel
end Go.Proofs.YtkehpnobidendaaDoor

namespace Go.Proofs.YtkehpnobidendaaDoor
theorem rec_ok_25 : recOk 25 = true := by decide +kernel
theorem rec_ok_26 : recOk 26 = true := by decide +kernel
theorem rec_ok_27 : recOk 27 = true := by decide +kernel
theorem rec_ok_28 : recOk 28 = true := by decide +kernel
theorem rec_ok_29 : recOk 29 = true := by decide +kernel
end Go.Proofs.YtkehpnobidendaaDoor

namespace Go.Proofs.YtkehpnobidendaaDoor
theorem rec_ok : ∀ s, s < 30 → recOk s = true
  | 0, _ => rec_ok_0
  | 1, _ => rec_ok_1
  | 2, _ => rec_ok_2
  | 3, _ => rec_ok_3
  | 4, _ => rec_ok_4
  | 5, _ => rec_ok_5
  | 6, _ => rec_ok_6
  | 7, _ => rec_ok_7
  | 8, _ => rec_ok_8
  | 9, _ => rec_ok_9
  | 10, _ => rec_ok_10
  | 11, _ => rec_ok_11
  | 12, _ => rec_ok_12
  | 13, _ => rec_ok_13
  | 14, _ => rec_ok_14
  | 15, _ => rec_ok_15
  | 16, _ => rec_ok_16
  | 17, _ => rec_ok_17
  | 18, _ => rec_ok_18
  | 19, _ => rec_ok_19
  | 20, _ => rec_ok_20
  | 21, _ => rec_ok_21
  | 22, _ => rec_ok_22
  | 23, _ => rec_ok_23
  | 24, _ => rec_ok_24
  | 25, _ => rec_ok_25
  | 26, _ => rec_ok_26
  | 27, _ => rec_ok_27
  | 28, _ => rec_ok_28
  | 29, _ => rec_ok_29
  | n + 30, h => by omega
end Go.Proofs.YtkehpnobidendaaDoor

namespace Go.Proofs.YtkehpnobidendaaDoor
open Go.RowKit
theorem krecovers (be si : Int) (p0 : -9223372036854775808 ≤ be) (p1 : be ≤ 9223372036854775807) (t0 : -9223372036854775808 ≤ si) (t1 : si ≤ 9223372036854775807) (w : World) (ht : Tab w) :
    Calls Tryd.prog 7 #[.int .i64 be, .int .i64 si] w fun e w' => e = .returned (.bool true) ∧ Below w.heap.size w w' := krecovers0 rec_ok be si p0 p1 t0 t1 w ht
end Go.Proofs.YtkehpnobidendaaDoor
