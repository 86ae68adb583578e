/- The model's proposal and vote, step by step, as the walks of the document's own functions meet them. No program in it. The document's vote: its loop over the votes that it has. -/
import Derived.Test.YtkehpnobidendaaGreatDoorM16
namespace Go.Proofs.YtkehpnobidendaaGreatDoor

theorem proposal_form {m : Mem} {x : Msg} (h : x.view < 1 ∨ 1000 < x.view ∨ x.fro ≠ x.view % 4 ∨ x.block.view ≠ x.view ∨ 16 < x.block.cmd.size ∨ x.block.just.view < 0 ∨ x.view ≤ x.block.just.view) : m.proposal x = (m, [], 1) := by
  unfold Mem.proposal; exact if_pos h
/-- The member that has heard a proposal, ahead of its vote. -/
def Mem.heard (m : Mem) (b : Blk) : Mem := (m.knows b).learn b.just
/-- Does it vote? -/
def Mem.votesOn (m : Mem) (b : Blk) : Bool := m.above m.locked.block (m.blocks.length + 1) b.just.block || decide (m.locked.view < b.just.view)
/-- Its vote. -/
def votMsg (v : Int) (n : Nat) (fro sl : Int) : Msg := ⟨2, fro, v, ⟨0, ⟨0, 0, 0, 0, 0, 0⟩, ⟨#[]⟩⟩, n, ⟨0, 0, 0, 0, 0, 0⟩, sl⟩
theorem proposal_steps {m : Mem} {x : Msg} (h : ¬ (x.view < 1 ∨ 1000 < x.view ∨ x.fro ≠ x.view % 4 ∨ x.block.view ≠ x.view ∨ 16 < x.block.cmd.size ∨ x.block.just.view < 0 ∨ x.view ≤ x.block.just.view)) :
    m.proposal x = if x.sl ≠ sealOf x.fro 1 x.view x.block.num ∨ x.block.just.good = false then (m, [], 2)
      else if (m.block x.block.just.block).isSome = false ∨ ((m.block x.block.just.block).getD Blk.zero).view ≠ x.block.just.view then (m, [], 3)
      else if x.view < m.view ∨ x.view ≤ m.voted then (m, [], 4)
      else if (m.heard x.block).votesOn x.block = true then (({ m.heard x.block with voted := x.view } : Mem).enter (if x.view < 1000 then x.view + 1 else x.view), [⟨(x.view + 1) % 4, votMsg x.view x.block.num m.id (sealOf m.id 2 x.view x.block.num)⟩], 0)
      else ((m.heard x.block).enter (if x.view < 1000 then x.view + 1 else x.view), [], 0) := by
  unfold Mem.proposal
  dsimp only
  rw [if_neg h]
  congr 1
  cases hb : m.block x.block.just.block with
  | none => simp
  | some b =>
    dsimp only [Option.getD_some, Option.isSome_some]
    simp only [Bool.true_eq_false, false_or]
    congr 1
    congr 1
    show _ = if (m.heard x.block).votesOn x.block = true then _ else _
    unfold Mem.votesOn Mem.heard
    split <;> rfl
theorem vote_form {m : Mem} {x : Msg} (h : x.fro < 0 ∨ 3 < x.fro ∨ x.view < 1 ∨ 999 < x.view ∨ m.id ≠ (x.view + 1) % 4) : m.vote x = (m, 1) := by
  unfold Mem.vote; exact if_pos h
/-- The votes for a block among the first k, their certificate, and: is one of them a member's? -/
def votN (m : Mem) (n : Nat) (k : Nat) : Nat := ((m.votes.take k).filter (fun t => t.n == n)).length
def votAny (m : Mem) (n : Nat) (f : Int) (k : Nat) : Bool := ((m.votes.take k).filter (fun t => t.n == n)).any (fun t => t.fro == f)
def votCrt (m : Mem) (v : Int) (n : Nat) (k : Nat) : Crt := ((m.votes.take k).filter (fun t => t.n == n)).foldl (fun (c : Crt) t => c.put t.fro t.sl) { Crt.zero with view := v, block := n }
theorem votN_succ (m : Mem) (n k : Nat) (hk : k < m.votes.length) : votN m n (k + 1) = votN m n k + (if (m.votes[k]).n == n then 1 else 0) := by
  unfold votN
  rw [List.take_succ_eq_append_getElem hk, List.filter_append, List.length_append]
  congr 1
  simp only [List.filter_cons, List.filter_nil]
  split <;> rfl
theorem votAny_succ (m : Mem) (n : Nat) (f : Int) (k : Nat) (hk : k < m.votes.length) : votAny m n f (k + 1) = (votAny m n f k || ((m.votes[k]).n == n && (m.votes[k]).fro == f)) := by
  unfold votAny
  rw [List.take_succ_eq_append_getElem hk, List.filter_append, List.any_append]
  congr 1
  simp only [List.filter_cons, List.filter_nil]
  split
  · rename_i h; simp [h]
  · rename_i h; simp [h]
theorem votCrt_succ (m : Mem) (v : Int) (n k : Nat) (hk : k < m.votes.length) : votCrt m v n (k + 1) = if (m.votes[k]).n == n then (votCrt m v n k).put (m.votes[k]).fro (m.votes[k]).sl else votCrt m v n k := by
  unfold votCrt
  rw [List.take_succ_eq_append_getElem hk, List.filter_append, List.foldl_append]
  simp only [List.filter_cons, List.filter_nil]
  split <;> rfl
theorem votN_le (m : Mem) (n k : Nat) : votN m n k ≤ k := by
  unfold votN
  have := List.length_filter_le (fun t : Tk => t.n == n) (m.votes.take k)
  have h2 := List.length_take_le k m.votes
  omega
theorem votAny_hit (m : Mem) (n : Nat) (f : Int) (k : Nat) (hk : k < m.votes.length) (hn : (m.votes[k]).n = n) (hf : (m.votes[k]).fro = f) : votAny m n f m.votes.length = true := by
  unfold votAny
  rw [List.take_length, List.any_eq_true]
  exact ⟨m.votes[k], List.mem_filter.2 ⟨List.getElem_mem _, by simp [hn]⟩, by simp [hf]⟩
theorem votCrt_same (m : Mem) (v : Int) (n k : Nat) : (votCrt m v n k).view = v ∧ (votCrt m v n k).block = n := puts_same _ _
/-- The member that has taken a vote. -/
def Mem.took (m : Mem) (x : Msg) : Mem := { m with votes := m.votes ++ [⟨x.fro, x.view, x.number, x.sl⟩] }
theorem vote_steps {m : Mem} {x : Msg} (h : ¬ (x.fro < 0 ∨ 3 < x.fro ∨ x.view < 1 ∨ 999 < x.view ∨ m.id ≠ (x.view + 1) % 4)) :
    m.vote x = if x.sl ≠ sealOf x.fro 2 x.view x.number then (m, 2)
      else if (m.block x.number).isSome = false ∨ ((m.block x.number).getD Blk.zero).view ≠ x.view then (m, 3)
      else if x.view < m.view - 1 ∨ x.view ≤ m.high.view then (m, 4)
      else if votAny m x.number x.fro m.votes.length = true then (m, 5)
      else if 3 ≤ votN m x.number m.votes.length + 1 then
        (if ((m.took x).learn ((votCrt m x.view x.number m.votes.length).put x.fro x.sl)).view ≤ x.view then ((m.took x).learn ((votCrt m x.view x.number m.votes.length).put x.fro x.sl)).enter (x.view + 1) else (m.took x).learn ((votCrt m x.view x.number m.votes.length).put x.fro x.sl), 0)
      else (m.took x, 0) := by
  have e1 : votAny m x.number x.fro m.votes.length = (m.votesFor x.number).any (fun t => t.fro == x.fro) := by unfold votAny Mem.votesFor; rw [List.take_length]
  have e2 : votN m x.number m.votes.length = (m.votesFor x.number).length := by unfold votN Mem.votesFor; rw [List.take_length]
  have e3 : votCrt m x.view x.number m.votes.length = (m.votesFor x.number).foldl (fun (c : Crt) t => c.put t.fro t.sl) { Crt.zero with view := x.view, block := x.number } := by unfold votCrt Mem.votesFor; rw [List.take_length]
  rw [e1, e2, e3]
  unfold Mem.vote
  rw [if_neg h]
  congr 1
  cases hb : m.block x.number with
  | none => simp
  | some b =>
    dsimp only [Option.getD_some, Option.isSome_some]
    simp only [Bool.true_eq_false, false_or]
    rfl
end Go.Proofs.YtkehpnobidendaaGreatDoor

namespace Go.Proofs.YtkehpnobidendaaGreatDoor
open Go.RowKit

/-- The loops' bodies of a code, in order. -/
def zloops : Code → List Code
  | .loop c => c :: zloops c
  | .seq a b => zloops a ++ zloops b
  | .block _ c => zloops c
  | .scope c => zloops c
  | .cond _ a b => zloops a ++ zloops b
  | _ => []
/-- Does a code begin with this region? -/
def zstarts (n : Nat) : Code → Bool
  | .region k _ _ => k == n
  | .seq a _ => zstarts n a
  | _ => false
/-- The part of a code that begins with this region. -/
def zfrom (n : Nat) : Code → Option Code
  | .seq a b => if zstarts n a then some (.seq a b) else match zfrom n a with
    | some c => some c
    | none => zfrom n b
  | .loop c => zfrom n c
  | .block _ c => zfrom n c
  | .scope c => zfrom n c
  | .cond _ a b => match zfrom n a with
    | some c => some c
    | none => zfrom n b
  | _ => none
def Crt.s (c : Crt) (j : Nat) : Int := if j = 0 then c.s0 else if j = 1 then c.s1 else if j = 2 then c.s2 else c.s3
theorem crt_seal {W : World} {bc : Nat} {T : TypeId} {c : Crt} (h : W.heap[bc]? = some (.cells c.cells.toArray T (0, 0))) (j : Nat) (hj : j < 4) : W.cell? ⟨bc, 2 + j, none⟩ = some (.int .u64 (c.s j)) ∧ W.frozen? ⟨bc, 2 + j, none⟩ = false := by
  refine ⟨?_, free_at h _⟩
  rw [cell_at h]
  rcases (by omega : j = 0 ∨ j = 1 ∨ j = 2 ∨ j = 3) with rfl | rfl | rfl | rfl <;> rfl
theorem crt_put {W : World} {bc : Nat} {T : TypeId} {c : Crt} (h : W.heap[bc]? = some (.cells c.cells.toArray T (0, 0))) (j : Nat) (hj : j < 4) (s : Int) : (W.setCell ⟨bc, 2 + j, none⟩ (.int .u64 s)).heap[bc]? = some (.cells (c.put j s).cells.toArray T (0, 0)) := by
  have h1 := heap_store (i := 2 + j) h (.int .u64 s)
  rcases (by omega : j = 0 ∨ j = 1 ∨ j = 2 ∨ j = 3) with rfl | rfl | rfl | rfl <;> exact h1
noncomputable def rvtB : Code := ((Tryz.f67.body.map zloops).getD []).getD 0 .skip
set_option maxRecDepth 1000000 in
set_option maxHeartbeats 8000000 in
theorem rvt_loop {y1 y2 y4 y5 y6 y7 y11 y12 y13 y14 y15 y16 y17 y18 y19 y20 y21 y22 y23 y24 y25 y26 y27 y28 y29 y30 y31 y32 y33 y34 y35 y36 y37 y38 y39 y40 y41 y42 y43 y44 y45 y46 y47 y48 y49 y50 y51 y52 y53 y54 y55 y56 y57 y58 y59 y60 y61 y62 y63 y64 y65 y66 y67 y68 y69 y70 y71 y72 y73 y74 y75 y76 y77 y78 y79 y80 y81 y82 y83 y84 y85 y86 y87 y88 y89 y90 y91 y92 y93 y94 y95 y96 y97 y98 y99 y100 y101 y102 y103 y104 y105 y106 y107 y108 y109 y110 y111 y112 y113 y114 y115 y116 y117 y118 y119 y120 y121 y122 y123 y124 y125 y126 y127 y128 y129 y130 y131 y132 y133 y134 y135 y136 y137 y138 y139 y140 y141 y142 y143 y144 y145 y146 y147 y148 y149 y150 y151 y152 y153 y154 y155 y156 y157 y158 y159 y160 y161 y162 y163 y164 y165 : Value} {p bx bc B : Nat} {xk xf xv bv jv j0 j1 j2 j3 cv c0 c1 c2 c3 xs : Int} {jb xn cb : Nat} {bcm : ByteArray} {S : Nat → Prop} {m : Mem} {out : List Ltr} {V : World} {Q : Exit → Act → World → Prop}
    (HM : Hid (RMem V p S B m out)) (HBX : Hid (V.heap[bx]? = some (.cells #[.int .i64 xk, .int .i64 xf, .int .i64 xv, .int .i64 bv, .int .i64 jv, .int .u64 jb, .int .u64 j0, .int .u64 j1, .int .u64 j2, .int .u64 j3, .string bcm, .int .u64 xn, .int .i64 cv, .int .u64 cb, .int .u64 c0, .int .u64 c1, .int .u64 c2, .int .u64 c3, .int .u64 xs] 43 (0, 0)))) (HBC : Hid (V.heap[bc]? = some (.cells (votCrt m xv xn 0).cells.toArray 39 (0, 0)))) (HSC : Hid (¬ S bc)) (HNE : Hid (bx ≠ bc)) (HVT : Hid (∀ t ∈ m.votes, 0 ≤ t.fro ∧ t.fro ≤ 3)) (hvl : m.votes.length ≤ 1700000000000)
    (HRE : Hid (∀ {v9 v10 v11 v91 v92 v93 v94 v95 v96 v97 v98 v99 v100 v101 v102 v103 v104 v105 v106 v107 v108 v109 v110 v111 v112 v113 v114 v115 v116 v117 v118 v119 v120 v121 v122 v123 v124 : Value} {w' : World}, votAny m xn xf m.votes.length = true → Fr (fun b => b = bc) V w' → Q .ret ⟨List.toArray (.pointer (some ⟨p, 0, none⟩) :: y1 :: y2 :: .pointer (some ⟨bx, 0, none⟩) :: .int .i64 5 :: y5 :: y6 :: y7 :: .pointer (some ⟨bc, 0, none⟩) :: v9 :: v10 :: v11 :: y12 :: y13 :: y14 :: y15 :: y16 :: y17 :: y18 :: y19 :: y20 :: y21 :: y22 :: y23 :: y24 :: y25 :: y26 :: y27 :: y28 :: y29 :: y30 :: y31 :: y32 :: y33 :: y34 :: y35 :: y36 :: y37 :: y38 :: y39 :: y40 :: y41 :: y42 :: y43 :: y44 :: y45 :: y46 :: y47 :: y48 :: y49 :: y50 :: y51 :: y52 :: y53 :: y54 :: y55 :: y56 :: y57 :: y58 :: y59 :: y60 :: y61 :: y62 :: y63 :: y64 :: y65 :: y66 :: y67 :: y68 :: y69 :: y70 :: y71 :: y72 :: y73 :: y74 :: y75 :: y76 :: y77 :: y78 :: y79 :: y80 :: y81 :: y82 :: y83 :: y84 :: y85 :: y86 :: y87 :: y88 :: y89 :: y90 :: v91 :: v92 :: v93 :: v94 :: v95 :: v96 :: v97 :: v98 :: v99 :: v100 :: v101 :: v102 :: v103 :: v104 :: v105 :: v106 :: v107 :: v108 :: v109 :: v110 :: v111 :: v112 :: v113 :: v114 :: v115 :: v116 :: v117 :: v118 :: v119 :: v120 :: v121 :: v122 :: v123 :: v124 :: y125 :: y126 :: y127 :: y128 :: y129 :: y130 :: y131 :: y132 :: y133 :: y134 :: y135 :: y136 :: y137 :: y138 :: y139 :: y140 :: y141 :: y142 :: y143 :: y144 :: y145 :: y146 :: y147 :: y148 :: y149 :: y150 :: y151 :: y152 :: y153 :: y154 :: y155 :: y156 :: y157 :: y158 :: y159 :: y160 :: y161 :: y162 :: y163 :: y164 :: y165 :: []), []⟩ w'))
    (HEX : Hid (∀ {v4 v10 v11 v91 v92 v93 v94 v95 v96 v97 v98 v99 v100 v101 v102 v103 v104 v105 v106 v107 v108 v109 v110 v111 v112 v113 v114 v115 v116 v117 v118 v119 v120 v121 v122 v123 v124 : Value} {w' : World}, votAny m xn xf m.votes.length = false → Fr (fun b => b = bc) V w' → w'.heap[bc]? = some (.cells (votCrt m xv xn m.votes.length).cells.toArray 39 (0, 0)) → Q (.exit 0) ⟨List.toArray (.pointer (some ⟨p, 0, none⟩) :: y1 :: y2 :: .pointer (some ⟨bx, 0, none⟩) :: v4 :: y5 :: y6 :: y7 :: .pointer (some ⟨bc, 0, none⟩) :: .int .i64 (((votN m xn m.votes.length : Nat) : Int) + 1) :: v10 :: v11 :: y12 :: y13 :: y14 :: y15 :: y16 :: y17 :: y18 :: y19 :: y20 :: y21 :: y22 :: y23 :: y24 :: y25 :: y26 :: y27 :: y28 :: y29 :: y30 :: y31 :: y32 :: y33 :: y34 :: y35 :: y36 :: y37 :: y38 :: y39 :: y40 :: y41 :: y42 :: y43 :: y44 :: y45 :: y46 :: y47 :: y48 :: y49 :: y50 :: y51 :: y52 :: y53 :: y54 :: y55 :: y56 :: y57 :: y58 :: y59 :: y60 :: y61 :: y62 :: y63 :: y64 :: y65 :: y66 :: y67 :: y68 :: y69 :: y70 :: y71 :: y72 :: y73 :: y74 :: y75 :: y76 :: y77 :: y78 :: y79 :: y80 :: y81 :: y82 :: y83 :: y84 :: y85 :: y86 :: y87 :: y88 :: y89 :: y90 :: v91 :: v92 :: v93 :: v94 :: v95 :: v96 :: v97 :: v98 :: v99 :: v100 :: v101 :: v102 :: v103 :: v104 :: v105 :: v106 :: v107 :: v108 :: v109 :: v110 :: v111 :: v112 :: v113 :: v114 :: v115 :: v116 :: v117 :: v118 :: v119 :: v120 :: v121 :: v122 :: v123 :: v124 :: y125 :: y126 :: y127 :: y128 :: y129 :: y130 :: y131 :: y132 :: y133 :: y134 :: y135 :: y136 :: y137 :: y138 :: y139 :: y140 :: y141 :: y142 :: y143 :: y144 :: y145 :: y146 :: y147 :: y148 :: y149 :: y150 :: y151 :: y152 :: y153 :: y154 :: y155 :: y156 :: y157 :: y158 :: y159 :: y160 :: y161 :: y162 :: y163 :: y164 :: y165 :: []), []⟩ w')) :
    Code.wp Tryz.prog (Code.loop rvtB) Q ⟨List.toArray (.pointer (some ⟨p, 0, none⟩) :: y1 :: y2 :: .pointer (some ⟨bx, 0, none⟩) :: y4 :: y5 :: y6 :: y7 :: .pointer (some ⟨bc, 0, none⟩) :: .int .i64 1 :: .int .i64 0 :: y11 :: y12 :: y13 :: y14 :: y15 :: y16 :: y17 :: y18 :: y19 :: y20 :: y21 :: y22 :: y23 :: y24 :: y25 :: y26 :: y27 :: y28 :: y29 :: y30 :: y31 :: y32 :: y33 :: y34 :: y35 :: y36 :: y37 :: y38 :: y39 :: y40 :: y41 :: y42 :: y43 :: y44 :: y45 :: y46 :: y47 :: y48 :: y49 :: y50 :: y51 :: y52 :: y53 :: y54 :: y55 :: y56 :: y57 :: y58 :: y59 :: y60 :: y61 :: y62 :: y63 :: y64 :: y65 :: y66 :: y67 :: y68 :: y69 :: y70 :: y71 :: y72 :: y73 :: y74 :: y75 :: y76 :: y77 :: y78 :: y79 :: y80 :: y81 :: y82 :: y83 :: y84 :: y85 :: y86 :: y87 :: y88 :: y89 :: y90 :: y91 :: y92 :: y93 :: y94 :: y95 :: y96 :: y97 :: y98 :: y99 :: y100 :: y101 :: y102 :: y103 :: y104 :: y105 :: y106 :: y107 :: y108 :: y109 :: y110 :: y111 :: y112 :: y113 :: y114 :: y115 :: y116 :: y117 :: y118 :: y119 :: y120 :: y121 :: y122 :: y123 :: y124 :: y125 :: y126 :: y127 :: y128 :: y129 :: y130 :: y131 :: y132 :: y133 :: y134 :: y135 :: y136 :: y137 :: y138 :: y139 :: y140 :: y141 :: y142 :: y143 :: y144 :: y145 :: y146 :: y147 :: y148 :: y149 :: y150 :: y151 :: y152 :: y153 :: y154 :: y155 :: y156 :: y157 :: y158 :: y159 :: y160 :: y161 :: y162 :: y163 :: y164 :: y165 :: []), []⟩ V := by
  conv => arg 2; arg 1; whnf
  have hvI : (m.votes.length : Int) ≤ 1700000000000 := by omega
  go_loopw [9, 10] (fun mm ii wr => ∃ k : Nat, k ≤ m.votes.length ∧ mm = .int .i64 (((votN m xn k : Nat) : Int) + 1) ∧ ii = .int .i64 (k : Int) ∧ Hid (votAny m xn xf k = false) ∧ Hid (Fr (fun b => b = bc) V wr ∧ wr.heap[bc]? = some (.cells (votCrt m xv xn k).cells.toArray 39 (0, 0)))) (fun _ ii _ => m.votes.length - (intOf ii).toNat)
  case atStart => exact ⟨0, by omega, rfl, rfl, (rfl : votAny m xn xf 0 = false), Fr.refl _ _, HBC.out⟩
  case round =>
    obtain ⟨k, hk, rfl, rfl, hno, hW⟩ := hrel
    have hkn := votN_le m xn k
    have HXr : Hid (wr.heap[bx]? = some (.cells #[.int .i64 xk, .int .i64 xf, .int .i64 xv, .int .i64 bv, .int .i64 jv, .int .u64 jb, .int .u64 j0, .int .u64 j1, .int .u64 j2, .int .u64 j3, .string bcm, .int .u64 xn, .int .i64 cv, .int .u64 cb, .int .u64 c0, .int .u64 c1, .int .u64 c2, .int .u64 c3, .int .u64 xs] 43 (0, 0))) := hW.out.1.box HBX.out HNE.out
    have HMr : Hid (RMem wr p S B m out) := HM.out.fr hW.out.1 (fun b hb e => HSC.out (by rw [← e]; exact hb))
    obtain ⟨vb, vv, ve, vp, vl, vq, vo, h, hB⟩ := HMr.out
    have hrv : Row wr S 113 4 vv m.votes.length (m.votes.flatMap Tk.cells) := h.row 1 _ _ _ rfl rfl rfl
    have c18 : wr.cell? ⟨p, 18, none⟩ = some vv := cell_at h.box 18
    clear h hB
    obtain ⟨ae, ce, rfl⟩ := hrv.isSlice
    have hk0 : (0 : Int) ≤ (k : Int) := by omega
    by_cases hlt : k < m.votes.length
    rotate_left
    · have hkI : ¬ (k : Int) < (m.votes.length : Int) := by omega
      have e : k = m.votes.length := by omega
      subst e
      clear hrv HMr HXr
      go_wp2
      exact HEX.out hno.out hW.out.1 hW.out.2
    · have hkI : (k : Int) < (m.votes.length : Int) := by omega
      obtain ⟨g, off, rfl, hSg, hg, hcap⟩ := hrv.place (by omega)
      have HIT : Hid ((m.votes[k]).n = xn → (m.votes[k]).fro = xf → votAny m xn xf m.votes.length = true) := votAny_hit m xn xf k hlt
      have HSN : Hid (votN m xn (k + 1) = votN m xn k + (if (m.votes[k]).n == xn then 1 else 0)) := votN_succ m xn k hlt
      have HSA : Hid (votAny m xn xf (k + 1) = (votAny m xn xf k || ((m.votes[k]).n == xn && (m.votes[k]).fro == xf))) := votAny_succ m xn xf k hlt
      have HSC2 : Hid (votCrt m xv xn (k + 1) = if (m.votes[k]).n == xn then (votCrt m xv xn k).put (m.votes[k]).fro (m.votes[k]).sl else votCrt m xv xn k) := votCrt_succ m xv xn k hlt
      obtain ⟨t0, t1⟩ := HVT.out _ (List.getElem_mem hlt)
      have e0 := hrv.elem tkcells_len k 0 hlt (by omega)
      have e1 := hrv.elem tkcells_len k 1 hlt (by omega)
      have e2 := hrv.elem tkcells_len k 2 hlt (by omega)
      have e3 := hrv.elem tkcells_len k 3 hlt (by omega)
      obtain ⟨tt, htt⟩ : ∃ x, x = m.votes[k] := ⟨_, rfl⟩
      rw [← htt] at HIT HSN HSA HSC2 t0 t1 e0 e1 e2 e3
      clear htt
      obtain ⟨tf, tv, tn, ts⟩ := tt
      have q0 : wr.cell? ⟨g, off + k * 4, none⟩ = some (.int .i64 tf) := by simpa [Tk.cells, Nat.add_assoc] using e0
      have q1 : wr.cell? ⟨g, off + k * 4 + 1, none⟩ = some (.int .i64 tv) := by simpa [Tk.cells, Nat.add_assoc] using e1
      have q2 : wr.cell? ⟨g, off + k * 4 + 2, none⟩ = some (.int .u64 tn) := by simpa [Tk.cells, Nat.add_assoc] using e2
      have q3 : wr.cell? ⟨g, off + k * 4 + 3, none⟩ = some (.int .u64 ts) := by simpa [Tk.cells, Nat.add_assoc] using e3
      dsimp only at HIT HSN HSA HSC2 t0 t1
      obtain ⟨j, rfl⟩ : ∃ j : Nat, tf = (j : Int) := ⟨tf.toNat, by omega⟩
      have hj4 : j < 4 := by omega
      have hj0 : (0 : Int) ≤ (j : Int) := by omega
      have hjI : (j : Int) < 4 := by omega
      clear e0 e1 e2 e3 hrv t0 t1
      have HBo : Hid (∀ o, (wr.alloc o).heap[bc]? = some (.cells (votCrt m xv xn k).cells.toArray 39 (0, 0))) := fun o => (Below.heap_alloc wr o _ (lt_at hW.out.2)).trans hW.out.2
      have HFo : Hid (∀ o, Fr (fun b => b = bc) V (wr.alloc o)) := fun o => hW.out.1.trans (Fr.alloc _ wr o) (fun _ h => .inl h)
      have A1 : ∀ o, (wr.alloc o).cell? ⟨bx, 1, none⟩ = some (.int .i64 xf) := fun o => (World.cell?_of_block (Below.heap_alloc wr o _ (lt_at HXr.out))).trans (cell_at HXr.out 1)
      have A11 : ∀ o, (wr.alloc o).cell? ⟨bx, 11, none⟩ = some (.int .u64 xn) := fun o => (World.cell?_of_block (Below.heap_alloc wr o _ (lt_at HXr.out))).trans (cell_at HXr.out 11)
      have Z1 : ∀ o, (wr.alloc o).cell? ⟨bc, 2 + j, none⟩ = some (.int .u64 ((votCrt m xv xn k).s j)) := fun o => (crt_seal (HBo.out o) j hj4).1
      have Z2 : ∀ o, (wr.alloc o).frozen? ⟨bc, 2 + j, none⟩ = false := fun o => (crt_seal (HBo.out o) j hj4).2
      clear HMr HXr
      by_cases htn : tn = xn
      · have htb : ((tn : Int) == (xn : Int)) = true := by simp [htn]
        by_cases htf : (j : Int) = xf
        · have htg : ((j : Int) == xf) = true := by simp [htf]
          have HA : Hid (votAny m xn xf m.votes.length = true) := HIT.out htn htf
          go_wp2
          exact HRE.out HA.out (HFo.out _)
        · have htg : ((j : Int) == xf) = false := by simp [htf]
          have HN1 : Hid (votN m xn (k + 1) = votN m xn k + 1) := by show _ = _; rw [HSN.out]; simp [htn]
          have HA1 : Hid (votAny m xn xf (k + 1) = false) := by show _ = _; rw [HSA.out, hno.out]; simp [htf]
          have HC1 : Hid (votCrt m xv xn (k + 1) = (votCrt m xv xn k).put (j : Int) ts) := by show _ = _; rw [HSC2.out]; simp [htn]
          clear HIT HSN HSA HSC2
          go_wp2
          go_roundw
          case rel => exact ⟨k + 1, by omega, by rw [HN1.out]; go_num, by go_num, HA1.out, (HFo.out _).trans (Fr.setCell (S := fun b => b = bc) _ rfl _) (fun _ h => .inl h), by rw [HC1.out]; exact crt_put (HBo.out _) j hj4 ts⟩
          case measure => simp [intOf]; omega
      · have htb : ((tn : Int) == (xn : Int)) = false := by simp; omega
        have HN1 : Hid (votN m xn (k + 1) = votN m xn k) := by show _ = _; rw [HSN.out]; simp [htn]
        have HA1 : Hid (votAny m xn xf (k + 1) = false) := by show _ = _; rw [HSA.out, hno.out]; simp [htn]
        have HC1 : Hid (votCrt m xv xn (k + 1) = votCrt m xv xn k) := by show _ = _; rw [HSC2.out]; simp [htn]
        clear HIT HSN HSA HSC2
        go_wp2
        go_roundw
        case rel => exact ⟨k + 1, by omega, by rw [HN1.out], by go_num, HA1.out, HFo.out _, by rw [HC1.out]; exact HBo.out _⟩
        case measure => simp [intOf]; omega
end Go.Proofs.YtkehpnobidendaaGreatDoor
