/- parleykeep's sends: its first inner loop (has the member voted in this view?). parleykeep's sends: its second inner loop (the votes for a block are put together). parleykeep's sends: its drawn regions, first part. parleykeep's sends: its drawn regions, second part. parleykeep's sends: its drawn regions, third part (the liar's seal). parleykeep's sends: the end of a round: the certificate that the votes make, with the liar's seal. -/
import Derived.Test.YtkehpnobidendaaDoorM35
import Derived.Test.YtkehpnobidendaaDoorM36
import Derived.BigRegion
import Derived.BigQuiet
import Derived.Deep.RegionHeld3
namespace Go.Proofs.YtkehpnobidendaaDoor
open Go.RowKit

/-- The loops' bodies of a code, in order. -/
def loopsOf : Code → List Code
  | .loop c => c :: loopsOf c
  | .seq a b => loopsOf a ++ loopsOf b
  | .block _ c => loopsOf c
  | .scope c => loopsOf c
  | .cond _ a b => loopsOf a ++ loopsOf b
  | _ => []
noncomputable def ksB2 : Code := ((Tryd.f38.body.map loopsOf).getD []).getD 1 .skip
theorem belowN {w w' : World} {n : Nat} (h : Below n w w') (k : Nat) : Below n w (w'.drewN k) := ⟨h.os, h.tape, h.output, h.size, h.block⟩
set_option maxRecDepth 1000000 in
set_option maxHeartbeats 8000000 in
theorem ks_loop2 {y3 y4 y5 y6 y9 y10 y11 y12 y13 y14 y15 y16 y17 y18 y19 y20 y21 y22 y23 y24 y25 y26 y27 y28 y29 y30 y31 y32 y33 y34 y35 y36 y37 y38 y39 y40 y41 y42 y43 y44 y45 y46 y47 y48 y49 y50 y51 y52 y53 y54 y55 y56 y57 y58 y59 y60 y61 y62 y63 y64 y65 y66 y67 y68 y69 y70 y71 y72 y73 y74 y75 y76 y77 y78 y79 y80 y81 y82 y83 y84 y85 y86 y87 y88 y89 y90 y91 y92 y93 y94 y95 y96 y97 y98 y99 y100 y101 y102 y103 y104 y105 y106 y107 y108 y109 y110 y111 y112 y113 y114 y115 y116 y117 y118 y119 y120 y121 y122 y123 y124 y125 y126 y127 y128 y129 y130 y131 y132 y133 y134 y135 y136 y137 y138 y139 y140 y141 y142 y143 y144 y145 y146 y147 y148 y149 y150 y151 y152 y153 y154 y155 y156 y157 y158 y159 y160 y161 y162 y163 y164 y165 y166 y167 y168 y169 y170 y171 y172 y173 y174 y175 y176 y177 y178 y179 y180 y181 y182 y183 y184 y185 y186 y187 y188 y189 y190 y191 y192 y193 y194 y195 y196 y197 y198 y199 y200 y201 y202 y203 y204 y205 y206 y207 y208 y209 y210 y211 y212 y213 y214 y215 y216 y217 y218 y219 y220 y221 y222 y223 y224 : Value} {p f g off ln cap k : Nat} {wb : World} {S2 : Nat → Prop} {vs : List Vt} {avv : Option Addr} {cvv : Nat} {xv : Int} {Q : Exit → Act → World → Prop}
    (q4 : wb.cell? ⟨p, 4, none⟩ = some (.slice avv vs.length cvv)) (hpl : p < wb.heap.size) (hg : g < wb.heap.size) (HRV : Hid (Row wb S2 106 3 (.slice avv vs.length cvv) vs.length (vs.flatMap vtcells))) (hvl : vs.length ≤ 1700000000)
    (hsv : wb.cell? ⟨g, off + k * 20 + 3, none⟩ = some (.int .i64 xv)) (hk : k < ln) (hln : ln ≤ 1700000000)
    (HEX : Hid (∀ {v6 v8 v78 v79 v80 v81 v82 v83 v84 v85 v86 v87 v88 v89 v90 v91 v92 v93 v94 v95 v96 v97 v98 v99 v100 v101 v102 v103 v104 v105 v106 v107 v108 v109 v110 v111 v112 v113 : Value} {w' : World}, Below wb.heap.size wb w' → vs.any (fun t => t.fro == (f : Int) && t.view == xv) = false → Q (.exit 2) ⟨List.toArray (.pointer (some ⟨p, 0, none⟩) :: .int .i64 (f : Int) :: .slice (some ⟨g, off, none⟩) ln cap :: y3 :: y4 :: y5 :: v6 :: .int .i64 (k : Int) :: v8 :: y9 :: y10 :: y11 :: y12 :: y13 :: y14 :: y15 :: y16 :: y17 :: y18 :: y19 :: y20 :: y21 :: y22 :: y23 :: y24 :: y25 :: y26 :: y27 :: y28 :: y29 :: y30 :: y31 :: y32 :: y33 :: y34 :: y35 :: y36 :: y37 :: y38 :: y39 :: y40 :: y41 :: y42 :: y43 :: y44 :: y45 :: y46 :: y47 :: y48 :: y49 :: y50 :: y51 :: y52 :: y53 :: y54 :: y55 :: y56 :: y57 :: y58 :: y59 :: y60 :: y61 :: y62 :: y63 :: y64 :: y65 :: y66 :: y67 :: y68 :: y69 :: y70 :: y71 :: y72 :: y73 :: y74 :: y75 :: y76 :: y77 :: v78 :: v79 :: v80 :: v81 :: v82 :: v83 :: v84 :: v85 :: v86 :: v87 :: v88 :: v89 :: v90 :: v91 :: v92 :: v93 :: v94 :: v95 :: v96 :: v97 :: v98 :: v99 :: v100 :: v101 :: v102 :: v103 :: v104 :: v105 :: v106 :: v107 :: v108 :: v109 :: v110 :: v111 :: v112 :: v113 :: y114 :: y115 :: y116 :: y117 :: y118 :: y119 :: y120 :: y121 :: y122 :: y123 :: y124 :: y125 :: y126 :: y127 :: y128 :: y129 :: y130 :: y131 :: y132 :: y133 :: y134 :: y135 :: y136 :: y137 :: y138 :: y139 :: y140 :: y141 :: y142 :: y143 :: y144 :: y145 :: y146 :: y147 :: y148 :: y149 :: y150 :: y151 :: y152 :: y153 :: y154 :: y155 :: y156 :: y157 :: y158 :: y159 :: y160 :: y161 :: y162 :: y163 :: y164 :: y165 :: y166 :: y167 :: y168 :: y169 :: y170 :: y171 :: y172 :: y173 :: y174 :: y175 :: y176 :: y177 :: y178 :: y179 :: y180 :: y181 :: y182 :: y183 :: y184 :: y185 :: y186 :: y187 :: y188 :: y189 :: y190 :: y191 :: y192 :: y193 :: y194 :: y195 :: y196 :: y197 :: y198 :: y199 :: y200 :: y201 :: y202 :: y203 :: y204 :: y205 :: y206 :: y207 :: y208 :: y209 :: y210 :: y211 :: y212 :: y213 :: y214 :: y215 :: y216 :: y217 :: y218 :: y219 :: y220 :: y221 :: y222 :: y223 :: y224 :: []), []⟩ w'))
    (HRE : Hid (∀ {v8 v78 v79 v80 v81 v82 v83 v84 v85 v86 v87 v88 v89 v90 v91 v92 v93 v94 v95 v96 v97 v98 v99 v100 v101 v102 v103 v104 v105 v106 v107 v108 v109 v110 v111 v112 v113 : Value} {w' : World}, Below wb.heap.size wb w' → vs.any (fun t => t.fro == (f : Int) && t.view == xv) = true → Q .ret ⟨List.toArray (.pointer (some ⟨p, 0, none⟩) :: .int .i64 (f : Int) :: .slice (some ⟨g, off, none⟩) ln cap :: y3 :: y4 :: y5 :: .bool false :: .int .i64 (k : Int) :: v8 :: y9 :: y10 :: y11 :: y12 :: y13 :: y14 :: y15 :: y16 :: y17 :: y18 :: y19 :: y20 :: y21 :: y22 :: y23 :: y24 :: y25 :: y26 :: y27 :: y28 :: y29 :: y30 :: y31 :: y32 :: y33 :: y34 :: y35 :: y36 :: y37 :: y38 :: y39 :: y40 :: y41 :: y42 :: y43 :: y44 :: y45 :: y46 :: y47 :: y48 :: y49 :: y50 :: y51 :: y52 :: y53 :: y54 :: y55 :: y56 :: y57 :: y58 :: y59 :: y60 :: y61 :: y62 :: y63 :: y64 :: y65 :: y66 :: y67 :: y68 :: y69 :: y70 :: y71 :: y72 :: y73 :: y74 :: y75 :: y76 :: y77 :: v78 :: v79 :: v80 :: v81 :: v82 :: v83 :: v84 :: v85 :: v86 :: v87 :: v88 :: v89 :: v90 :: v91 :: v92 :: v93 :: v94 :: v95 :: v96 :: v97 :: v98 :: v99 :: v100 :: v101 :: v102 :: v103 :: v104 :: v105 :: v106 :: v107 :: v108 :: v109 :: v110 :: v111 :: v112 :: v113 :: y114 :: y115 :: y116 :: y117 :: y118 :: y119 :: y120 :: y121 :: y122 :: y123 :: y124 :: y125 :: y126 :: y127 :: y128 :: y129 :: y130 :: y131 :: y132 :: y133 :: y134 :: y135 :: y136 :: y137 :: y138 :: y139 :: y140 :: y141 :: y142 :: y143 :: y144 :: y145 :: y146 :: y147 :: y148 :: y149 :: y150 :: y151 :: y152 :: y153 :: y154 :: y155 :: y156 :: y157 :: y158 :: y159 :: y160 :: y161 :: y162 :: y163 :: y164 :: y165 :: y166 :: y167 :: y168 :: y169 :: y170 :: y171 :: y172 :: y173 :: y174 :: y175 :: y176 :: y177 :: y178 :: y179 :: y180 :: y181 :: y182 :: y183 :: y184 :: y185 :: y186 :: y187 :: y188 :: y189 :: y190 :: y191 :: y192 :: y193 :: y194 :: y195 :: y196 :: y197 :: y198 :: y199 :: y200 :: y201 :: y202 :: y203 :: y204 :: y205 :: y206 :: y207 :: y208 :: y209 :: y210 :: y211 :: y212 :: y213 :: y214 :: y215 :: y216 :: y217 :: y218 :: y219 :: y220 :: y221 :: y222 :: y223 :: y224 :: []), []⟩ w')) :
    Code.wp Tryd.prog (Code.loop ksB2) Q ⟨List.toArray (.pointer (some ⟨p, 0, none⟩) :: .int .i64 (f : Int) :: .slice (some ⟨g, off, none⟩) ln cap :: y3 :: y4 :: y5 :: y6 :: .int .i64 (k : Int) :: .int .i64 0 :: y9 :: y10 :: y11 :: y12 :: y13 :: y14 :: y15 :: y16 :: y17 :: y18 :: y19 :: y20 :: y21 :: y22 :: y23 :: y24 :: y25 :: y26 :: y27 :: y28 :: y29 :: y30 :: y31 :: y32 :: y33 :: y34 :: y35 :: y36 :: y37 :: y38 :: y39 :: y40 :: y41 :: y42 :: y43 :: y44 :: y45 :: y46 :: y47 :: y48 :: y49 :: y50 :: y51 :: y52 :: y53 :: y54 :: y55 :: y56 :: y57 :: y58 :: y59 :: y60 :: y61 :: y62 :: y63 :: y64 :: y65 :: y66 :: y67 :: y68 :: y69 :: y70 :: y71 :: y72 :: y73 :: y74 :: y75 :: y76 :: y77 :: y78 :: y79 :: y80 :: y81 :: y82 :: y83 :: y84 :: y85 :: y86 :: y87 :: y88 :: y89 :: y90 :: y91 :: y92 :: y93 :: y94 :: y95 :: y96 :: y97 :: y98 :: y99 :: y100 :: y101 :: y102 :: y103 :: y104 :: y105 :: y106 :: y107 :: y108 :: y109 :: y110 :: y111 :: y112 :: y113 :: y114 :: y115 :: y116 :: y117 :: y118 :: y119 :: y120 :: y121 :: y122 :: y123 :: y124 :: y125 :: y126 :: y127 :: y128 :: y129 :: y130 :: y131 :: y132 :: y133 :: y134 :: y135 :: y136 :: y137 :: y138 :: y139 :: y140 :: y141 :: y142 :: y143 :: y144 :: y145 :: y146 :: y147 :: y148 :: y149 :: y150 :: y151 :: y152 :: y153 :: y154 :: y155 :: y156 :: y157 :: y158 :: y159 :: y160 :: y161 :: y162 :: y163 :: y164 :: y165 :: y166 :: y167 :: y168 :: y169 :: y170 :: y171 :: y172 :: y173 :: y174 :: y175 :: y176 :: y177 :: y178 :: y179 :: y180 :: y181 :: y182 :: y183 :: y184 :: y185 :: y186 :: y187 :: y188 :: y189 :: y190 :: y191 :: y192 :: y193 :: y194 :: y195 :: y196 :: y197 :: y198 :: y199 :: y200 :: y201 :: y202 :: y203 :: y204 :: y205 :: y206 :: y207 :: y208 :: y209 :: y210 :: y211 :: y212 :: y213 :: y214 :: y215 :: y216 :: y217 :: y218 :: y219 :: y220 :: y221 :: y222 :: y223 :: y224 :: []), []⟩ wb := by
  conv => arg 2; arg 1; whnf
  have i1 : (0 : Int) ≤ (k : Int) := by omega
  have i2 : (k : Int) < (ln : Int) := by omega
  have i3 : (ln : Int) ≤ 1700000000 := by omega
  go_loopw [8] (fun i w' => ∃ j : Nat, j ≤ vs.length ∧ i = .int .i64 j ∧ Hid (Below wb.heap.size wb w') ∧ Hid (∀ (t : Nat) (ht : t < vs.length), t < j → (vs[t].fro == (f : Int) && vs[t].view == xv) = false)) (fun i _ => vs.length - (intOf i).toNat)
  case atStart => exact ⟨0, by omega, rfl, Below.refl _ _, fun t ht h => by omega⟩
  case round =>
    obtain ⟨j, hj, rfl, hbw, hnot⟩ := hrel
    have r4 := (hbw.out.cell (p := ⟨p, 4, none⟩) hpl).trans q4
    by_cases hjl : j < vs.length
    · obtain ⟨g4, o4, rfl, _, hg4, hc4⟩ := HRV.out.place (by omega)
      have s0 := (hbw.out.cell (p := ⟨g4, o4 + j * 3 + 0, none⟩) hg4).trans (HRV.out.elemAt vt_len j hjl 0 _ rfl)
      have s1 := (hbw.out.cell (p := ⟨g4, o4 + j * 3 + 1, none⟩) hg4).trans (HRV.out.elemAt vt_len j hjl 1 _ rfl)
      have sv : wr.cell? ⟨g, off + k * 20 + 3, none⟩ = some (.int .i64 xv) := (hbw.out.cell (p := ⟨g, off + k * 20 + 3, none⟩) hg).trans hsv
      have HHIT : Hid ((vs[j].fro == (f : Int) && vs[j].view == xv) = true → vs.any (fun t => t.fro == (f : Int) && t.view == xv) = true) := fun h => any_at hjl h
      have HNEXT : Hid ((vs[j].fro == (f : Int) && vs[j].view == xv) = false → ∀ (t : Nat) (ht : t < vs.length), t < j + 1 → (vs[t].fro == (f : Int) && vs[t].view == xv) = false) := fun h t ht htj => by
        by_cases ht' : t < j
        · exact hnot.out t ht ht'
        · have e : t = j := by omega
          subst e; exact h
      generalize vs[j] = t at s0 s1 HHIT HNEXT
      obtain ⟨tf, tv, tn⟩ := t
      simp only [Nat.add_zero] at s0
      have m1 : (0 : Int) ≤ (j : Int) := by omega
      have m2 : (j : Int) < (vs.length : Int) := by omega
      by_cases hf1 : tf = (f : Int)
      · subst hf1
        by_cases hv1 : tv = xv
        · subst hv1
          have HS : Hid (vs.any (fun t => t.fro == (f : Int) && t.view == tv) = true) := HHIT.out (by simp)
          clear HHIT HNEXT
          go_wp2
          go_quiet (fail)
          go_wp2
          exact HRE.out (belowN hbw.out _) HS.out
        · have hv2 : (tv == xv) = false := by simp; exact hv1
          have HS := HNEXT.out (by simp; exact hv1)
          have HS' : Hid _ := HS
          clear HHIT HNEXT HS
          go_wp2
          go_quiet (fail)
          go_wp2
          go_roundw
          case rel => exact ⟨j + 1, by omega, by go_num, belowN hbw.out _, HS'.out⟩
          case measure => simp [intOf]; omega
      · have hf2 : (tf == (f : Int)) = false := by simp; exact hf1
        have HS := HNEXT.out (by simp; exact fun e => absurd e hf1)
        have HS' : Hid _ := HS
        clear HHIT HNEXT HS
        go_wp2
        go_quiet (fail)
        go_wp2
        go_roundw
        case rel => exact ⟨j + 1, by omega, by go_num, belowN hbw.out _, HS'.out⟩
        case measure => simp [intOf]; omega
    · have hjl' : j = vs.length := by omega
      have HN : Hid (vs.any (fun t => t.fro == (f : Int) && t.view == xv) = false) := any_none (fun t ht => hnot.out t ht (by omega))
      have hjI : ¬ (j : Int) < (vs.length : Int) := by omega
      go_wp2
      exact HEX.out hbw.out HN.out
end Go.Proofs.YtkehpnobidendaaDoor

namespace Go.Proofs.YtkehpnobidendaaDoor
open Go.RowKit

theorem putc (v : Int) (b : Nat) (r0 r1 r2 r3 : Int) (f : Nat) (hf : f < 4) (s : Int) : (#[.int .i64 v, .int .u64 b, .int .u64 r0, .int .u64 r1, .int .u64 r2, .int .u64 r3] : Array Value).setIfInBounds (2 + f) (.int .u64 s) = ((⟨v, b, r0, r1, r2, r3⟩ : Crt).put f s).cells.toArray := by
  rcases (by omega : f = 0 ∨ f = 1 ∨ f = 2 ∨ f = 3) with rfl | rfl | rfl | rfl <;> rfl
theorem put_keeps (c : Crt) (f s : Int) : (c.put f s).view = c.view ∧ (c.put f s).block = c.block := by unfold Crt.put; split; exact ⟨rfl, rfl⟩; split; exact ⟨rfl, rfl⟩; split; exact ⟨rfl, rfl⟩; exact ⟨rfl, rfl⟩
noncomputable def ksB3 : Code := ((Tryd.f38.body.map loopsOf).getD []).getD 2 .skip
set_option maxRecDepth 1000000 in
set_option maxHeartbeats 8000000 in
theorem ks_loop3 {y1 y2 y3 y4 y5 y6 y7 y8 y12 y13 y14 y15 y16 y17 y18 y19 y20 y21 y22 y23 y24 y25 y26 y27 y28 y29 y30 y31 y32 y33 y34 y35 y36 y37 y38 y39 y40 y41 y42 y43 y44 y45 y46 y47 y48 y49 y50 y51 y52 y53 y54 y55 y56 y57 y58 y59 y60 y61 y62 y63 y64 y65 y66 y67 y68 y69 y70 y71 y72 y73 y74 y75 y76 y77 y78 y79 y80 y81 y82 y83 y84 y85 y86 y87 y88 y89 y90 y91 y92 y93 y94 y95 y96 y97 y98 y99 y100 y101 y102 y103 y104 y105 y106 y107 y108 y109 y110 y111 y112 y113 y114 y115 y116 y117 y118 y119 y120 y121 y122 y123 y124 y125 y126 y127 y128 y129 y130 y131 y132 y133 y134 y135 y136 y137 y138 y139 y140 y141 y142 y143 y144 y145 y146 y147 y148 y149 y150 y151 y152 y153 y154 y155 y156 y157 y158 y159 y160 y161 y162 y163 y164 y165 y166 y167 y168 y169 y170 y171 y172 y173 y174 y175 y176 y177 y178 y179 y180 y181 y182 y183 y184 y185 y186 y187 y188 y189 y190 y191 y192 y193 y194 y195 y196 y197 y198 y199 y200 y201 y202 y203 y204 y205 y206 y207 y208 y209 y210 y211 y212 y213 y214 y215 y216 y217 y218 y219 y220 y221 y222 y223 y224 : Value} {p : Nat} {wd we : World} {S4 : Nat → Prop} {vs : List Vt} {avv : Option Addr} {cvv : Nat} {xv : Int} {nu : Nat} {Q : Exit → Act → World → Prop}
    (q4 : wd.cell? ⟨p, 4, none⟩ = some (.slice avv vs.length cvv)) (hpl : p < wd.heap.size) (HRV : Hid (Row wd S4 106 3 (.slice avv vs.length cvv) vs.length (vs.flatMap vtcells))) (hvl3 : vs.length ≤ 1700000000) (HVO : Hid (∀ t ∈ vs, t.Ok)) (HTB : Hid (Tab wd))
    (HSE : Hid (∀ W, Tab W → ∀ (m v : Int) (u : Nat), 0 ≤ m → m ≤ 3 → -9223372036854775808 ≤ v → v ≤ 9223372036854775807 → u < 18446744073709551616 → Calls Tryd.prog 11 #[.int .i64 m, .int .i64 2, .int .i64 v, .int .u64 u] W fun e w' => e = .returned (.int .u64 (sealOf m 2 v u)) ∧ Below W.heap.size W w'))
    (HB5 : Hid (Below wd.heap.size wd we)) (HX5 : Hid (we.heap[wd.heap.size]? = some (.cells #[.int .i64 xv, .int .u64 nu, .int .u64 0, .int .u64 0, .int .u64 0, .int .u64 0] 26 (0, 0))))
    (HEX : Hid (∀ {v11 v12 v150 v151 v152 v153 v154 v155 v156 v157 v158 v159 v160 v161 v162 v163 v164 v165 v166 v167 v168 v169 v170 v171 v172 v173 v174 v175 v176 v177 v178 v179 v180 v181 v182 v183 v184 v185 v186 v187 v188 v189 v190 : Value} {w' : World} (r0 r1 r2 r3 : Int) (mn : Nat), mn ≤ vs.length → Below wd.heap.size wd w' → w'.heap[wd.heap.size]? = some (.cells #[.int .i64 xv, .int .u64 nu, .int .u64 r0, .int .u64 r1, .int .u64 r2, .int .u64 r3] 26 (0, 0)) → voteSum xv nu vs (⟨xv, nu, 0, 0, 0, 0⟩, 0) = (⟨xv, nu, r0, r1, r2, r3⟩, (mn : Int)) → Q (.exit 4) ⟨List.toArray (.pointer (some ⟨p, 0, none⟩) :: y1 :: y2 :: y3 :: y4 :: y5 :: y6 :: y7 :: y8 :: .pointer (some ⟨wd.heap.size, 0, none⟩) :: .int .i64 (mn : Int) :: v11 :: v12 :: y13 :: y14 :: y15 :: y16 :: y17 :: y18 :: y19 :: y20 :: y21 :: y22 :: y23 :: y24 :: y25 :: y26 :: y27 :: y28 :: y29 :: y30 :: y31 :: y32 :: y33 :: y34 :: y35 :: y36 :: y37 :: y38 :: y39 :: y40 :: y41 :: y42 :: y43 :: y44 :: y45 :: y46 :: y47 :: y48 :: y49 :: y50 :: y51 :: y52 :: y53 :: y54 :: y55 :: y56 :: y57 :: y58 :: y59 :: y60 :: y61 :: y62 :: y63 :: y64 :: y65 :: y66 :: y67 :: y68 :: y69 :: y70 :: y71 :: y72 :: y73 :: y74 :: y75 :: y76 :: y77 :: y78 :: y79 :: y80 :: y81 :: y82 :: y83 :: y84 :: y85 :: y86 :: y87 :: y88 :: y89 :: y90 :: y91 :: y92 :: y93 :: y94 :: y95 :: y96 :: y97 :: y98 :: y99 :: y100 :: y101 :: y102 :: y103 :: y104 :: y105 :: y106 :: y107 :: y108 :: y109 :: y110 :: y111 :: y112 :: y113 :: y114 :: y115 :: y116 :: y117 :: y118 :: y119 :: y120 :: y121 :: y122 :: y123 :: y124 :: y125 :: y126 :: y127 :: y128 :: y129 :: y130 :: y131 :: y132 :: y133 :: y134 :: y135 :: y136 :: y137 :: y138 :: y139 :: y140 :: y141 :: y142 :: y143 :: y144 :: y145 :: y146 :: y147 :: y148 :: y149 :: v150 :: v151 :: v152 :: v153 :: v154 :: v155 :: v156 :: v157 :: v158 :: v159 :: v160 :: v161 :: v162 :: v163 :: v164 :: v165 :: v166 :: v167 :: v168 :: v169 :: v170 :: v171 :: v172 :: v173 :: v174 :: v175 :: v176 :: v177 :: v178 :: v179 :: v180 :: v181 :: v182 :: v183 :: v184 :: v185 :: v186 :: v187 :: v188 :: v189 :: v190 :: y191 :: y192 :: y193 :: y194 :: y195 :: y196 :: y197 :: y198 :: y199 :: y200 :: y201 :: y202 :: y203 :: y204 :: y205 :: y206 :: y207 :: y208 :: y209 :: y210 :: y211 :: y212 :: y213 :: y214 :: y215 :: y216 :: y217 :: y218 :: y219 :: y220 :: y221 :: y222 :: y223 :: y224 :: []), []⟩ w')) :
    Code.wp Tryd.prog (Code.loop ksB3) Q ⟨List.toArray (.pointer (some ⟨p, 0, none⟩) :: y1 :: y2 :: y3 :: y4 :: y5 :: y6 :: y7 :: y8 :: .pointer (some ⟨wd.heap.size, 0, none⟩) :: .int .i64 0 :: .int .i64 0 :: y12 :: y13 :: y14 :: y15 :: y16 :: y17 :: y18 :: y19 :: y20 :: y21 :: y22 :: y23 :: y24 :: y25 :: y26 :: y27 :: y28 :: y29 :: y30 :: y31 :: y32 :: y33 :: y34 :: y35 :: y36 :: y37 :: y38 :: y39 :: y40 :: y41 :: y42 :: y43 :: y44 :: y45 :: y46 :: y47 :: y48 :: y49 :: y50 :: y51 :: y52 :: y53 :: y54 :: y55 :: y56 :: y57 :: y58 :: y59 :: y60 :: y61 :: y62 :: y63 :: y64 :: y65 :: y66 :: y67 :: y68 :: y69 :: y70 :: y71 :: y72 :: y73 :: y74 :: y75 :: y76 :: y77 :: y78 :: y79 :: y80 :: y81 :: y82 :: y83 :: y84 :: y85 :: y86 :: y87 :: y88 :: y89 :: y90 :: y91 :: y92 :: y93 :: y94 :: y95 :: y96 :: y97 :: y98 :: y99 :: y100 :: y101 :: y102 :: y103 :: y104 :: y105 :: y106 :: y107 :: y108 :: y109 :: y110 :: y111 :: y112 :: y113 :: y114 :: y115 :: y116 :: y117 :: y118 :: y119 :: y120 :: y121 :: y122 :: y123 :: y124 :: y125 :: y126 :: y127 :: y128 :: y129 :: y130 :: y131 :: y132 :: y133 :: y134 :: y135 :: y136 :: y137 :: y138 :: y139 :: y140 :: y141 :: y142 :: y143 :: y144 :: y145 :: y146 :: y147 :: y148 :: y149 :: y150 :: y151 :: y152 :: y153 :: y154 :: y155 :: y156 :: y157 :: y158 :: y159 :: y160 :: y161 :: y162 :: y163 :: y164 :: y165 :: y166 :: y167 :: y168 :: y169 :: y170 :: y171 :: y172 :: y173 :: y174 :: y175 :: y176 :: y177 :: y178 :: y179 :: y180 :: y181 :: y182 :: y183 :: y184 :: y185 :: y186 :: y187 :: y188 :: y189 :: y190 :: y191 :: y192 :: y193 :: y194 :: y195 :: y196 :: y197 :: y198 :: y199 :: y200 :: y201 :: y202 :: y203 :: y204 :: y205 :: y206 :: y207 :: y208 :: y209 :: y210 :: y211 :: y212 :: y213 :: y214 :: y215 :: y216 :: y217 :: y218 :: y219 :: y220 :: y221 :: y222 :: y223 :: y224 :: []), []⟩ we := by
  conv => arg 2; arg 1; whnf
  go_loopw [10, 11] (fun n i w' => ∃ (j : Nat) (cr : Crt) (mn : Nat), j ≤ vs.length ∧ i = .int .i64 j ∧ n = .int .i64 mn ∧ mn ≤ j ∧ Hid (Below wd.heap.size wd w') ∧ Hid (w'.heap[wd.heap.size]? = some (.cells cr.cells.toArray 26 (0, 0))) ∧ Hid (voteSum xv nu vs (⟨xv, nu, 0, 0, 0, 0⟩, 0) = voteSum xv nu (vs.drop j) (cr, mn)) ∧ Hid (cr.view = xv ∧ cr.block = nu)) (fun _ i _ => vs.length - (intOf i).toNat)
  case atStart => exact ⟨0, ⟨xv, nu, 0, 0, 0, 0⟩, 0, by omega, rfl, rfl, by omega, HB5.out, HX5.out, rfl, ⟨rfl, rfl⟩⟩
  case round =>
    clear HB5 HX5
    obtain ⟨j, ⟨rv, rb, r0, r1, r2, r3⟩, mn, hj, rfl, rfl, hmn, hbw, hX, hsum, hcv⟩ := hrel
    obtain ⟨rfl, rfl⟩ : rv = xv ∧ rb = nu := hcv.out
    have r4 := (hbw.out.cell (p := ⟨p, 4, none⟩) hpl).trans q4
    dsimp only [Crt.cells] at hX
    have hcl : wd.heap.size < wr.heap.size := lt_at hX.out
    by_cases hjl : j < vs.length
    · obtain ⟨g4, o4, rfl, _, hg4, hc4⟩ := HRV.out.place (by omega)
      have s0 := (hbw.out.cell (p := ⟨g4, o4 + j * 3 + 0, none⟩) hg4).trans (HRV.out.elemAt vt_len j hjl 0 _ rfl)
      have s1 := (hbw.out.cell (p := ⟨g4, o4 + j * 3 + 1, none⟩) hg4).trans (HRV.out.elemAt vt_len j hjl 1 _ rfl)
      have s2 := (hbw.out.cell (p := ⟨g4, o4 + j * 3 + 2, none⟩) hg4).trans (HRV.out.elemAt vt_len j hjl 2 _ rfl)
      have HTO : Hid (Vt.Ok vs[j]) := HVO.out _ (List.getElem_mem hjl)
      have HSU := hsum.out
      rw [sum_step hjl] at HSU
      generalize vs[j] = t at s0 s1 s2 HTO HSU
      obtain ⟨tf, tv, tn⟩ := t
      simp only [Nat.add_zero] at s0
      have m1 : (0 : Int) ≤ (j : Int) := by omega
      have m2 : (j : Int) < (vs.length : Int) := by omega
      obtain ⟨fn, hfn⟩ : ∃ fn : Nat, tf = (fn : Int) := ⟨tf.toNat, by have := HTO.out.f0; dsimp only at this; omega⟩
      subst hfn
      have hf4 : fn < 4 := by have := HTO.out.f1; dsimp only at this; omega
      have y0 : ∀ o, (wr.alloc o).cell? ⟨wd.heap.size, 0, none⟩ = some (.int .i64 rv) := fun o => cell_at ((Below.heap_alloc _ _ _ hcl).trans hX.out) 0
      have y1 : ∀ o, (wr.alloc o).cell? ⟨wd.heap.size, 1, none⟩ = some (.int .u64 rb) := fun o => cell_at ((Below.heap_alloc _ _ _ hcl).trans hX.out) 1
      by_cases hv1 : tv = rv
      · subst hv1
        by_cases hn1 : tn = rb
        · subst hn1
          have HSU2 : Hid (voteSum tv tn vs (⟨tv, tn, 0, 0, 0, 0⟩, 0) = voteSum tv tn (vs.drop (j + 1)) ((⟨tv, tn, r0, r1, r2, r3⟩ : Crt).put fn (sealOf fn 2 tv tn), ((mn + 1 : Nat) : Int))) := by
            show _ = _
            rw [HSU, if_pos ⟨rfl, rfl⟩]
            rfl
          have HT5 : Hid (Vt.Ok ⟨fn, tv, tn⟩) := HTO
          clear HSU HTO hsum
          go_upto_region 23 with fail
          obtain ⟨W2, hW2⟩ : ∃ W, W = wr.alloc (.cells #[.int .i64 (fn : Int), .int .i64 tv, .int .u64 tn] 106) := ⟨_, rfl⟩
          rw [← hW2]
          have HV2 : Hid (W2.heap[wr.heap.size]? = some (.cells #[.int .i64 (fn : Int), .int .i64 tv, .int .u64 tn] 106 (0, 0))) := by rw [hW2]; exact heap_alloc_new wr _
          have HX2 : Hid (W2.heap[wd.heap.size]? = some (.cells #[.int .i64 tv, .int .u64 tn, .int .u64 r0, .int .u64 r1, .int .u64 r2, .int .u64 r3] 26 (0, 0))) := by rw [hW2]; exact (Below.heap_alloc _ _ _ hcl).trans hX.out
          have HB2 : Hid (Below wd.heap.size wd W2) := by rw [hW2]; exact bnext hbw.out (below_alloc _ _)
          clear hW2 hX hbw y0 y1 r4 s0 s1 s2
          obtain ⟨ov, hov⟩ : ∃ ov, (#[.int .i64 tv, .int .u64 tn, .int .u64 r0, .int .u64 r1, .int .u64 r2, .int .u64 r3] : Array Value)[2 + fn]? = some ov := by
            rcases (by omega : fn = 0 ∨ fn = 1 ∨ fn = 2 ∨ fn = 3) with rfl | rfl | rfl | rfl <;> exact ⟨_, rfl⟩
          have HOV : Hid ((#[.int .i64 tv, .int .u64 tn, .int .u64 r0, .int .u64 r1, .int .u64 r2, .int .u64 r3] : Array Value)[2 + fn]? = some ov) := hov
          clear hov
          have n1 : (0 : Int) ≤ (fn : Int) := by omega
          have n2 : (fn : Int) < 4 := by omega
          have HS1 : Hid (∀ W, Below W2.heap.size W2 W → Below wd.heap.size wd W ∧ W.cell? ⟨wr.heap.size, 0, none⟩ = some (.int .i64 (fn : Int)) ∧ W.cell? ⟨wr.heap.size, 1, none⟩ = some (.int .i64 tv) ∧ W.cell? ⟨wr.heap.size, 2, none⟩ = some (.int .u64 tn)) := fun W hW => by
            have hq := (hW.block _ (lt_at HV2.out)).trans HV2.out
            exact ⟨bnext HB2.out hW, cell_at hq 0, cell_at hq 1, cell_at hq 2⟩
          have HS2 : Hid (∀ W x, Below W2.heap.size W2 W → Below wd.heap.size wd (W.setCell ⟨wd.heap.size, 2 + fn, none⟩ x) ∧ (W.setCell ⟨wd.heap.size, 2 + fn, none⟩ x).cell? ⟨wr.heap.size, 0, none⟩ = some (.int .i64 (fn : Int)) ∧ (W.setCell ⟨wd.heap.size, 2 + fn, none⟩ x).cell? ⟨wr.heap.size, 1, none⟩ = some (.int .i64 tv) ∧ (W.setCell ⟨wd.heap.size, 2 + fn, none⟩ x).cell? ⟨wr.heap.size, 2, none⟩ = some (.int .u64 tn)) := fun W x hW => by
            have hq := (hW.block _ (lt_at HV2.out)).trans HV2.out
            have hq2 : (W.setCell ⟨wd.heap.size, 2 + fn, none⟩ x).heap[wr.heap.size]? = _ := (heap_store_ne x (by omega)).trans hq
            exact ⟨(bnext HB2.out hW).setCell (p := ⟨wd.heap.size, 2 + fn, none⟩) (Nat.le_refl _) _, cell_at hq2 0, cell_at hq2 1, cell_at hq2 2⟩
          have v0 : W2.cell? ⟨wr.heap.size, 0, none⟩ = some (.int .i64 (fn : Int)) := cell_at HV2.out 0
          have v1 : W2.cell? ⟨wr.heap.size, 1, none⟩ = some (.int .i64 tv) := cell_at HV2.out 1
          have v2 : W2.cell? ⟨wr.heap.size, 2, none⟩ = some (.int .u64 tn) := cell_at HV2.out 2
          go_cut [] from 150 to 190 (fun w' => Hid (∃ W, Below W2.heap.size W2 W ∧ w' = W.setCell ⟨wd.heap.size, 2 + fn, none⟩ (.int .u64 (sealOf fn 2 tv tn))))
          case first =>
            go_region_held3 (fun W => Below wd.heap.size wd W ∧ W.cell? ⟨wr.heap.size, 0, none⟩ = some (.int .i64 (fn : Int)) ∧ W.cell? ⟨wr.heap.size, 1, none⟩ = some (.int .i64 tv) ∧ W.cell? ⟨wr.heap.size, 2, none⟩ = some (.int .u64 tn))
              (first | (exact HS1.out _ (Below.refl _ _)) | (exact HS1.out _ (Below.refl _ _).drew) | (exact HS1.out _ HB6.out) | (exact HS2.out _ _ HB6.out))
              ((go_at_call 11; refine (HSE.out W2.drew ((HTB.out.below HB2.out).same rfl) fn tv tn (by omega) (by omega) HT5.out.v0 HT5.out.v1 HT5.out.n1).mono ?_; rintro e w5 ⟨rfl, hb5⟩; have hb6 : Below W2.heap.size W2 w5 := ⟨hb5.os, hb5.tape, hb5.output, hb5.size, hb5.block⟩; have hx5 := (hb6.block _ (lt_at HX2.out)).trans HX2.out; have xo : w5.cell? ⟨wd.heap.size, 2 + fn, none⟩ = some ov := (cell_at hx5 (2 + fn)).trans HOV.out; have xf := free_at hx5; have HB6 : Hid (Below W2.heap.size W2 w5) := hb6; clear hb5 hb6 hx5))
            all_goals (
              go_wp2
              go_meet
              case rel => exact ⟨_, HB6.out, rfl⟩)
          case rest =>
            obtain ⟨W5, hb5, hw5⟩ := hcut.out
            have hx5 := (hb5.block _ (lt_at HX2.out)).trans HX2.out
            have HX5 : Hid (wc.heap[wd.heap.size]? = some (.cells (((⟨tv, tn, r0, r1, r2, r3⟩ : Crt).put fn (sealOf fn 2 tv tn)).cells.toArray) 26 (0, 0))) := by
              rw [hw5]
              have hq := heap_store hx5 (i := 2 + fn) (.int .u64 (sealOf fn 2 tv tn))
              rw [putc tv tn r0 r1 r2 r3 fn hf4] at hq
              exact hq
            have HB5 : Hid (Below wd.heap.size wd wc) := by rw [hw5]; exact (bnext HB2.out hb5).setCell (p := ⟨wd.heap.size, 2 + fn, none⟩) (Nat.le_refl _) _
            have HPC : Hid (((⟨tv, tn, r0, r1, r2, r3⟩ : Crt).put fn (sealOf fn 2 tv tn)).view = tv ∧ ((⟨tv, tn, r0, r1, r2, r3⟩ : Crt).put fn (sealOf fn 2 tv tn)).block = tn) := put_keeps _ _ _
            clear hcut hx5 hw5 hb5 v0 v1 v2 HX2 HV2 HB2 HS1 HS2
            go_wp2
            go_roundw
            case rel => exact ⟨j + 1, _, mn + 1, by omega, by go_num, by go_num, by omega, HB5.out, HX5.out, HSU2.out, HPC.out⟩
            case measure => simp [intOf]; omega
        · have hn2 : ((tn : Int) == (rb : Int)) = false := by simp; omega
          have HSU2 : Hid (voteSum tv rb vs (⟨tv, rb, 0, 0, 0, 0⟩, 0) = voteSum tv rb (vs.drop (j + 1)) (⟨tv, rb, r0, r1, r2, r3⟩, (mn : Int))) := by
            show _ = _
            rw [HSU, if_neg (fun h => hn1 h.2)]
          clear HSU hsum
          go_wp2
          go_roundw
          case rel => exact ⟨j + 1, ⟨tv, rb, r0, r1, r2, r3⟩, mn, by omega, by go_num, by go_num, by omega, bnext hbw.out (below_alloc _ _), (Below.heap_alloc _ _ _ hcl).trans hX.out, HSU2.out, ⟨rfl, rfl⟩⟩
          case measure => simp [intOf]; omega
      · have hv2 : (tv == rv) = false := by simp; exact hv1
        have HSU2 : Hid (voteSum rv rb vs (⟨rv, rb, 0, 0, 0, 0⟩, 0) = voteSum rv rb (vs.drop (j + 1)) (⟨rv, rb, r0, r1, r2, r3⟩, (mn : Int))) := by
          show _ = _
          rw [HSU, if_neg (fun h => hv1 h.1)]
        clear HSU hsum
        go_wp2
        go_roundw
        case rel => exact ⟨j + 1, ⟨rv, rb, r0, r1, r2, r3⟩, mn, by omega, by go_num, by go_num, by omega, bnext hbw.out (below_alloc _ _), (Below.heap_alloc _ _ _ hcl).trans hX.out, HSU2.out, ⟨rfl, rfl⟩⟩
        case measure => simp [intOf]; omega
    · have hjl' : j = vs.length := by omega
      have hjI : ¬ (j : Int) < (vs.length : Int) := by omega
      have HN : Hid (voteSum rv rb vs (⟨rv, rb, 0, 0, 0, 0⟩, 0) = (⟨rv, rb, r0, r1, r2, r3⟩, (mn : Int))) := by have := hsum.out; rw [hjl', List.drop_length] at this; exact this
      go_wp2
      exact HEX.out r0 r1 r2 r3 mn (by omega) hbw.out hX.out HN.out
end Go.Proofs.YtkehpnobidendaaDoor

namespace Go.Proofs.YtkehpnobidendaaDoor
open Go.RowKit
attribute [local go_sem ↓] ld_ltr load_blk app_l app_v app_c

/-- A region of a code, by its number. -/
def regOf (n : Nat) : Code → Option Code
  | .region k o d => if k = n then some (.region k o d) else none
  | .loop c => regOf n c
  | .seq a b => match regOf n a with
    | some c => some c
    | none => regOf n b
  | .block _ c => regOf n c
  | .scope c => regOf n c
  | .cond _ a b => match regOf n a with
    | some c => some c
    | none => regOf n b
  | _ => none
noncomputable def ksR6 : Code := ((Tryd.f38.body.bind (regOf 6))).getD .skip
set_option maxRecDepth 1000000 in
set_option maxHeartbeats 8000000 in
theorem ks_r6 {y1 y3 y4 y5 y6 y8 y9 y10 y11 y12 y13 y14 y15 y16 y17 y18 y19 y20 y21 y22 y23 y24 y25 y26 y27 y28 y29 y30 y31 y32 y33 y34 y35 y36 y37 y38 y39 y40 y41 y42 y43 y44 y45 y46 y47 y48 y49 y50 y51 y52 y53 y54 y55 y56 y57 y58 y59 y60 y61 y62 y63 y64 y65 y66 y67 y68 y69 y70 y71 y72 y73 y74 y75 y76 y77 y78 y79 y80 y81 y82 y83 y84 y85 y86 y87 y88 y89 y90 y91 y92 y93 y94 y95 y96 y97 y98 y99 y100 y101 y102 y103 y104 y105 y106 y107 y108 y109 y110 y111 y112 y113 y114 y115 y116 y117 y118 y119 y120 y121 y122 y123 y124 y125 y126 y127 y128 y129 y130 y131 y132 y133 y134 y135 y136 y137 y138 y139 y140 y141 y142 y143 y144 y145 y146 y147 y148 y149 y150 y151 y152 y153 y154 y155 y156 y157 y158 y159 y160 y161 y162 y163 y164 y165 y166 y167 y168 y169 y170 y171 y172 y173 y174 y175 y176 y177 y178 y179 y180 y181 y182 y183 y184 y185 y186 y187 y188 y189 y190 y191 y192 y193 y194 y195 y196 y197 y198 y199 y200 y201 y202 y203 y204 y205 y206 y207 y208 y209 y210 y211 y212 y213 y214 y215 y216 y217 y218 y219 y220 y221 y222 y223 y224 : Value} {p g off ln cap k nl cl c7 : Nat} {al a7 : Option Addr} {wr w7 : World} {l0 xk xf xv bv jv j0 j1 j2 j3 cv k0 k1 k2 k3 sl : Int} {jb nu cb : Nat} {bc : ByteArray} {Q : Exit → Act → World → Prop}
    (hrun : (appL #[.slice al nl cl, .slice (some ⟨wr.heap.size, 0, none⟩) 1 1]).run Tryd.prog (wr.alloc (.cells #[.int .i64 l0, .int .i64 xk, .int .i64 xf, .int .i64 xv, .int .i64 bv, .int .i64 jv, .int .u64 jb, .int .u64 j0, .int .u64 j1, .int .u64 j2, .int .u64 j3, .string bc, .int .u64 nu, .int .i64 cv, .int .u64 cb, .int .u64 k0, .int .u64 k1, .int .u64 k2, .int .u64 k3, .int .u64 sl] 42)).drew = .ok (.slice a7 (nl + 1) c7) w7) (q2 : wr.cell? ⟨p, 2, none⟩ = some (.slice al nl cl)) (q2a : ∀ ob, (wr.alloc ob).cell? ⟨p, 2, none⟩ = some (.slice al nl cl)) (q7 : w7.cell? ⟨p, 2, none⟩ = some (.slice al nl cl)) (fz7 : w7.frozen? ⟨p, 2, none⟩ = false)
    (hlw : (rowVar 42 ⟨g, off + k * 20, none⟩).run Tryd.prog wr.drew = .ok (.agg #[.int .i64 l0, .int .i64 xk, .int .i64 xf, .int .i64 xv, .int .i64 bv, .int .i64 jv, .int .u64 jb, .int .u64 j0, .int .u64 j1, .int .u64 j2, .int .u64 j3, .string bc, .int .u64 nu, .int .i64 cv, .int .u64 cb, .int .u64 k0, .int .u64 k1, .int .u64 k2, .int .u64 k3, .int .u64 sl]) wr.drew) (i1 : (0 : Int) ≤ (k : Int)) (i2 : (k : Int) < (ln : Int)) (hln : ln ≤ 1700000000)
    (HEX : Hid (∀ {v43 v44 v45 v46 v47 v48 v49 v50 v51 v52 v53 v54 v55 : Value}, Q .normal ⟨List.toArray (.pointer (some ⟨p, 0, none⟩) :: y1 :: .slice (some ⟨g, off, none⟩) ln cap :: y3 :: y4 :: y5 :: y6 :: .int .i64 (k : Int) :: y8 :: y9 :: y10 :: y11 :: y12 :: y13 :: y14 :: y15 :: y16 :: y17 :: y18 :: y19 :: y20 :: y21 :: y22 :: y23 :: y24 :: y25 :: y26 :: y27 :: y28 :: y29 :: y30 :: y31 :: y32 :: y33 :: y34 :: y35 :: y36 :: y37 :: y38 :: y39 :: y40 :: y41 :: y42 :: v43 :: v44 :: v45 :: v46 :: v47 :: v48 :: v49 :: v50 :: v51 :: v52 :: v53 :: v54 :: v55 :: y56 :: y57 :: y58 :: y59 :: y60 :: y61 :: y62 :: y63 :: y64 :: y65 :: y66 :: y67 :: y68 :: y69 :: y70 :: y71 :: y72 :: y73 :: y74 :: y75 :: y76 :: y77 :: y78 :: y79 :: y80 :: y81 :: y82 :: y83 :: y84 :: y85 :: y86 :: y87 :: y88 :: y89 :: y90 :: y91 :: y92 :: y93 :: y94 :: y95 :: y96 :: y97 :: y98 :: y99 :: y100 :: y101 :: y102 :: y103 :: y104 :: y105 :: y106 :: y107 :: y108 :: y109 :: y110 :: y111 :: y112 :: y113 :: y114 :: y115 :: y116 :: y117 :: y118 :: y119 :: y120 :: y121 :: y122 :: y123 :: y124 :: y125 :: y126 :: y127 :: y128 :: y129 :: y130 :: y131 :: y132 :: y133 :: y134 :: y135 :: y136 :: y137 :: y138 :: y139 :: y140 :: y141 :: y142 :: y143 :: y144 :: y145 :: y146 :: y147 :: y148 :: y149 :: y150 :: y151 :: y152 :: y153 :: y154 :: y155 :: y156 :: y157 :: y158 :: y159 :: y160 :: y161 :: y162 :: y163 :: y164 :: y165 :: y166 :: y167 :: y168 :: y169 :: y170 :: y171 :: y172 :: y173 :: y174 :: y175 :: y176 :: y177 :: y178 :: y179 :: y180 :: y181 :: y182 :: y183 :: y184 :: y185 :: y186 :: y187 :: y188 :: y189 :: y190 :: y191 :: y192 :: y193 :: y194 :: y195 :: y196 :: y197 :: y198 :: y199 :: y200 :: y201 :: y202 :: y203 :: y204 :: y205 :: y206 :: y207 :: y208 :: y209 :: y210 :: y211 :: y212 :: y213 :: y214 :: y215 :: y216 :: y217 :: y218 :: y219 :: y220 :: y221 :: y222 :: y223 :: y224 :: []), []⟩ (w7.setCell ⟨p, 2, none⟩ (.slice a7 (nl + 1) c7)))) :
    Code.wp Tryd.prog ksR6 Q ⟨List.toArray (.pointer (some ⟨p, 0, none⟩) :: y1 :: .slice (some ⟨g, off, none⟩) ln cap :: y3 :: y4 :: y5 :: y6 :: .int .i64 (k : Int) :: y8 :: y9 :: y10 :: y11 :: y12 :: y13 :: y14 :: y15 :: y16 :: y17 :: y18 :: y19 :: y20 :: y21 :: y22 :: y23 :: y24 :: y25 :: y26 :: y27 :: y28 :: y29 :: y30 :: y31 :: y32 :: y33 :: y34 :: y35 :: y36 :: y37 :: y38 :: y39 :: y40 :: y41 :: y42 :: y43 :: y44 :: y45 :: y46 :: y47 :: y48 :: y49 :: y50 :: y51 :: y52 :: y53 :: y54 :: y55 :: y56 :: y57 :: y58 :: y59 :: y60 :: y61 :: y62 :: y63 :: y64 :: y65 :: y66 :: y67 :: y68 :: y69 :: y70 :: y71 :: y72 :: y73 :: y74 :: y75 :: y76 :: y77 :: y78 :: y79 :: y80 :: y81 :: y82 :: y83 :: y84 :: y85 :: y86 :: y87 :: y88 :: y89 :: y90 :: y91 :: y92 :: y93 :: y94 :: y95 :: y96 :: y97 :: y98 :: y99 :: y100 :: y101 :: y102 :: y103 :: y104 :: y105 :: y106 :: y107 :: y108 :: y109 :: y110 :: y111 :: y112 :: y113 :: y114 :: y115 :: y116 :: y117 :: y118 :: y119 :: y120 :: y121 :: y122 :: y123 :: y124 :: y125 :: y126 :: y127 :: y128 :: y129 :: y130 :: y131 :: y132 :: y133 :: y134 :: y135 :: y136 :: y137 :: y138 :: y139 :: y140 :: y141 :: y142 :: y143 :: y144 :: y145 :: y146 :: y147 :: y148 :: y149 :: y150 :: y151 :: y152 :: y153 :: y154 :: y155 :: y156 :: y157 :: y158 :: y159 :: y160 :: y161 :: y162 :: y163 :: y164 :: y165 :: y166 :: y167 :: y168 :: y169 :: y170 :: y171 :: y172 :: y173 :: y174 :: y175 :: y176 :: y177 :: y178 :: y179 :: y180 :: y181 :: y182 :: y183 :: y184 :: y185 :: y186 :: y187 :: y188 :: y189 :: y190 :: y191 :: y192 :: y193 :: y194 :: y195 :: y196 :: y197 :: y198 :: y199 :: y200 :: y201 :: y202 :: y203 :: y204 :: y205 :: y206 :: y207 :: y208 :: y209 :: y210 :: y211 :: y212 :: y213 :: y214 :: y215 :: y216 :: y217 :: y218 :: y219 :: y220 :: y221 :: y222 :: y223 :: y224 :: []), []⟩ wr := by
  refine wp_mono (Q := Exit.then (Q .normal) (fun _ _ _ => False)) ?_ (fun e a w h => by cases e <;> first | exact h | exact h.elim)
  conv => arg 2; whnf
  have i3 : (ln : Int) ≤ 1700000000 := by omega
  go_region
  all_goals exact HEX.out
end Go.Proofs.YtkehpnobidendaaDoor

namespace Go.Proofs.YtkehpnobidendaaDoor
open Go.RowKit
attribute [local go_sem ↓] ld_ltr load_blk app_l app_v app_c
noncomputable def ksR29 : Code := ((Tryd.f38.body.bind (regOf 29))).getD .skip
set_option maxRecDepth 1000000 in
set_option maxHeartbeats 8000000 in
theorem ks_r29 {y1 y2 y3 y4 y5 y6 y7 y8 y10 y11 y12 y13 y14 y15 y16 y17 y18 y19 y20 y21 y22 y23 y24 y25 y26 y27 y28 y29 y30 y31 y32 y33 y34 y35 y36 y37 y38 y39 y40 y41 y42 y43 y44 y45 y46 y47 y48 y49 y50 y51 y52 y53 y54 y55 y56 y57 y58 y59 y60 y61 y62 y63 y64 y65 y66 y67 y68 y69 y70 y71 y72 y73 y74 y75 y76 y77 y78 y79 y80 y81 y82 y83 y84 y85 y86 y87 y88 y89 y90 y91 y92 y93 y94 y95 y96 y97 y98 y99 y100 y101 y102 y103 y104 y105 y106 y107 y108 y109 y110 y111 y112 y113 y114 y115 y116 y117 y118 y119 y120 y121 y122 y123 y124 y125 y126 y127 y128 y129 y130 y131 y132 y133 y134 y135 y136 y137 y138 y139 y140 y141 y142 y143 y144 y145 y146 y147 y148 y149 y150 y151 y152 y153 y154 y155 y156 y157 y158 y159 y160 y161 y162 y163 y164 y165 y166 y167 y168 y169 y170 y171 y172 y173 y174 y175 y176 y177 y178 y179 y180 y181 y182 y183 y184 y185 y186 y187 y188 y189 y190 y191 y192 y193 y194 y195 y196 y197 y198 y199 y200 y201 y202 y203 y204 y205 y206 y207 y208 y209 y210 y211 y212 y213 y214 y215 y216 y217 y218 y219 y220 y221 y222 y223 y224 : Value} {p B nc cl c7 : Nat} {al a7 : Option Addr} {wt w7 : World} {d0 d2 d3 d4 d5 : Int} {d1 : Nat} {Q : Exit → Act → World → Prop}
    (hrun : (appC #[.slice al nc cl, .slice (some ⟨wt.heap.size, 0, none⟩) 1 1]).run Tryd.prog (wt.alloc (.cells #[.int .i64 d0, .int .u64 d1, .int .u64 d2, .int .u64 d3, .int .u64 d4, .int .u64 d5] 26)).drew = .ok (.slice a7 (nc + 1) c7) w7) (q3 : wt.cell? ⟨p, 3, none⟩ = some (.slice al nc cl)) (q3a : ∀ ob, (wt.alloc ob).cell? ⟨p, 3, none⟩ = some (.slice al nc cl)) (q7 : w7.cell? ⟨p, 3, none⟩ = some (.slice al nc cl)) (fz7 : w7.frozen? ⟨p, 3, none⟩ = false)
    (e0 : wt.cell? ⟨B, 0, none⟩ = some (.int .i64 d0)) (e1 : wt.cell? ⟨B, 1, none⟩ = some (.int .u64 d1)) (e2 : wt.cell? ⟨B, 2, none⟩ = some (.int .u64 d2)) (e3 : wt.cell? ⟨B, 3, none⟩ = some (.int .u64 d3)) (e4 : wt.cell? ⟨B, 4, none⟩ = some (.int .u64 d4)) (e5 : wt.cell? ⟨B, 5, none⟩ = some (.int .u64 d5))
    (HEX : Hid (∀ {v215 v216 v217 v218 v219 v220 v221 v222 v223 v224 : Value}, Q .normal ⟨List.toArray (.pointer (some ⟨p, 0, none⟩) :: y1 :: y2 :: y3 :: y4 :: y5 :: y6 :: y7 :: y8 :: .pointer (some ⟨B, 0, none⟩) :: y10 :: y11 :: y12 :: y13 :: y14 :: y15 :: y16 :: y17 :: y18 :: y19 :: y20 :: y21 :: y22 :: y23 :: y24 :: y25 :: y26 :: y27 :: y28 :: y29 :: y30 :: y31 :: y32 :: y33 :: y34 :: y35 :: y36 :: y37 :: y38 :: y39 :: y40 :: y41 :: y42 :: y43 :: y44 :: y45 :: y46 :: y47 :: y48 :: y49 :: y50 :: y51 :: y52 :: y53 :: y54 :: y55 :: y56 :: y57 :: y58 :: y59 :: y60 :: y61 :: y62 :: y63 :: y64 :: y65 :: y66 :: y67 :: y68 :: y69 :: y70 :: y71 :: y72 :: y73 :: y74 :: y75 :: y76 :: y77 :: y78 :: y79 :: y80 :: y81 :: y82 :: y83 :: y84 :: y85 :: y86 :: y87 :: y88 :: y89 :: y90 :: y91 :: y92 :: y93 :: y94 :: y95 :: y96 :: y97 :: y98 :: y99 :: y100 :: y101 :: y102 :: y103 :: y104 :: y105 :: y106 :: y107 :: y108 :: y109 :: y110 :: y111 :: y112 :: y113 :: y114 :: y115 :: y116 :: y117 :: y118 :: y119 :: y120 :: y121 :: y122 :: y123 :: y124 :: y125 :: y126 :: y127 :: y128 :: y129 :: y130 :: y131 :: y132 :: y133 :: y134 :: y135 :: y136 :: y137 :: y138 :: y139 :: y140 :: y141 :: y142 :: y143 :: y144 :: y145 :: y146 :: y147 :: y148 :: y149 :: y150 :: y151 :: y152 :: y153 :: y154 :: y155 :: y156 :: y157 :: y158 :: y159 :: y160 :: y161 :: y162 :: y163 :: y164 :: y165 :: y166 :: y167 :: y168 :: y169 :: y170 :: y171 :: y172 :: y173 :: y174 :: y175 :: y176 :: y177 :: y178 :: y179 :: y180 :: y181 :: y182 :: y183 :: y184 :: y185 :: y186 :: y187 :: y188 :: y189 :: y190 :: y191 :: y192 :: y193 :: y194 :: y195 :: y196 :: y197 :: y198 :: y199 :: y200 :: y201 :: y202 :: y203 :: y204 :: y205 :: y206 :: y207 :: y208 :: y209 :: y210 :: y211 :: y212 :: y213 :: y214 :: v215 :: v216 :: v217 :: v218 :: v219 :: v220 :: v221 :: v222 :: v223 :: v224 :: []), []⟩ (w7.setCell ⟨p, 3, none⟩ (.slice a7 (nc + 1) c7)))) :
    Code.wp Tryd.prog ksR29 Q ⟨List.toArray (.pointer (some ⟨p, 0, none⟩) :: y1 :: y2 :: y3 :: y4 :: y5 :: y6 :: y7 :: y8 :: .pointer (some ⟨B, 0, none⟩) :: y10 :: y11 :: y12 :: y13 :: y14 :: y15 :: y16 :: y17 :: y18 :: y19 :: y20 :: y21 :: y22 :: y23 :: y24 :: y25 :: y26 :: y27 :: y28 :: y29 :: y30 :: y31 :: y32 :: y33 :: y34 :: y35 :: y36 :: y37 :: y38 :: y39 :: y40 :: y41 :: y42 :: y43 :: y44 :: y45 :: y46 :: y47 :: y48 :: y49 :: y50 :: y51 :: y52 :: y53 :: y54 :: y55 :: y56 :: y57 :: y58 :: y59 :: y60 :: y61 :: y62 :: y63 :: y64 :: y65 :: y66 :: y67 :: y68 :: y69 :: y70 :: y71 :: y72 :: y73 :: y74 :: y75 :: y76 :: y77 :: y78 :: y79 :: y80 :: y81 :: y82 :: y83 :: y84 :: y85 :: y86 :: y87 :: y88 :: y89 :: y90 :: y91 :: y92 :: y93 :: y94 :: y95 :: y96 :: y97 :: y98 :: y99 :: y100 :: y101 :: y102 :: y103 :: y104 :: y105 :: y106 :: y107 :: y108 :: y109 :: y110 :: y111 :: y112 :: y113 :: y114 :: y115 :: y116 :: y117 :: y118 :: y119 :: y120 :: y121 :: y122 :: y123 :: y124 :: y125 :: y126 :: y127 :: y128 :: y129 :: y130 :: y131 :: y132 :: y133 :: y134 :: y135 :: y136 :: y137 :: y138 :: y139 :: y140 :: y141 :: y142 :: y143 :: y144 :: y145 :: y146 :: y147 :: y148 :: y149 :: y150 :: y151 :: y152 :: y153 :: y154 :: y155 :: y156 :: y157 :: y158 :: y159 :: y160 :: y161 :: y162 :: y163 :: y164 :: y165 :: y166 :: y167 :: y168 :: y169 :: y170 :: y171 :: y172 :: y173 :: y174 :: y175 :: y176 :: y177 :: y178 :: y179 :: y180 :: y181 :: y182 :: y183 :: y184 :: y185 :: y186 :: y187 :: y188 :: y189 :: y190 :: y191 :: y192 :: y193 :: y194 :: y195 :: y196 :: y197 :: y198 :: y199 :: y200 :: y201 :: y202 :: y203 :: y204 :: y205 :: y206 :: y207 :: y208 :: y209 :: y210 :: y211 :: y212 :: y213 :: y214 :: y215 :: y216 :: y217 :: y218 :: y219 :: y220 :: y221 :: y222 :: y223 :: y224 :: []), []⟩ wt := by
  refine wp_mono (Q := Exit.then (Q .normal) (fun _ _ _ => False)) ?_ (fun e a w h => by cases e <;> first | exact h | exact h.elim)
  conv => arg 2; whnf
  go_region
  all_goals exact HEX.out
end Go.Proofs.YtkehpnobidendaaDoor

namespace Go.Proofs.YtkehpnobidendaaDoor
open Go.RowKit
attribute [local go_sem ↓] ld_ltr load_blk app_l app_v app_c
noncomputable def ksR26 : Code := ((Tryd.f38.body.bind (regOf 26))).getD .skip
set_option maxRecDepth 1000000 in
set_option maxHeartbeats 8000000 in
theorem ks_r26 {y1 y2 y3 y4 y5 y6 y7 y8 y10 y11 y12 y13 y14 y15 y16 y17 y18 y19 y20 y21 y22 y23 y24 y25 y26 y27 y28 y29 y30 y31 y32 y33 y34 y35 y36 y37 y38 y39 y40 y41 y42 y43 y44 y45 y46 y47 y48 y49 y50 y51 y52 y53 y54 y55 y56 y57 y58 y59 y60 y61 y62 y63 y64 y65 y66 y67 y68 y69 y70 y71 y72 y73 y74 y75 y76 y77 y78 y79 y80 y81 y82 y83 y84 y85 y86 y87 y88 y89 y90 y91 y92 y93 y94 y95 y96 y97 y98 y99 y100 y101 y102 y103 y104 y105 y106 y107 y108 y109 y110 y111 y112 y113 y114 y115 y116 y117 y118 y119 y120 y121 y122 y123 y124 y125 y126 y127 y128 y129 y130 y131 y132 y133 y134 y135 y136 y137 y138 y139 y140 y141 y142 y143 y144 y145 y146 y147 y148 y149 y150 y151 y152 y153 y154 y155 y156 y157 y158 y159 y160 y161 y162 y163 y164 y165 y166 y167 y168 y169 y170 y171 y172 y173 y174 y175 y176 y177 y178 y179 y180 y181 y182 y183 y184 y185 y186 y187 y188 y189 y190 y191 y192 y193 y194 y195 y196 y197 y198 y199 y200 y201 y202 y203 y204 y205 y206 y207 y208 y209 y210 y211 y212 y213 y214 y215 y216 y217 y218 y219 y220 y221 y222 y223 y224 : Value} {p ln : Nat} {wd wr : World} {rv r0 r1 r2 r3 : Int} {rb : Nat} {Q : Exit → Act → World → Prop}
    (hX : Hid (wr.heap[wd.heap.size]? = some (.cells #[.int .i64 rv, .int .u64 rb, .int .u64 r0, .int .u64 r1, .int .u64 r2, .int .u64 r3] 26 (0, 0)))) (hbw : Hid (Below wd.heap.size wd wr)) (hpl : p < wd.heap.size) (l1 : wr.cell? ⟨p, 1, none⟩ = some (.int .i64 (ln : Int))) (hl4 : ln < 4) (HLL : Hid (-9223372036854775808 ≤ rv ∧ rv ≤ 9223372036854775807 ∧ rb < 18446744073709551616)) (HTB : Hid (Tab wd))
    (HSE : Hid (∀ W, Tab W → ∀ (m v : Int) (u : Nat), 0 ≤ m → m ≤ 3 → -9223372036854775808 ≤ v → v ≤ 9223372036854775807 → u < 18446744073709551616 → Calls Tryd.prog 11 #[.int .i64 m, .int .i64 2, .int .i64 v, .int .u64 u] W fun e w' => e = .returned (.int .u64 (sealOf m 2 v u)) ∧ Below W.heap.size W w'))
    (HEX : Hid (∀ {v196 v197 v198 v199 v200 v201 v202 v203 v204 v205 v206 v207 v208 v209 v210 : Value} {w' : World}, (∃ W, Below wr.heap.size wr W ∧ w' = W.setCell ⟨wd.heap.size, 2 + ln, none⟩ (.int .u64 (sealOf ln 2 rv rb))) → Q .normal ⟨List.toArray (.pointer (some ⟨p, 0, none⟩) :: y1 :: y2 :: y3 :: y4 :: y5 :: y6 :: y7 :: y8 :: .pointer (some ⟨wd.heap.size, 0, none⟩) :: y10 :: y11 :: y12 :: y13 :: y14 :: y15 :: y16 :: y17 :: y18 :: y19 :: y20 :: y21 :: y22 :: y23 :: y24 :: y25 :: y26 :: y27 :: y28 :: y29 :: y30 :: y31 :: y32 :: y33 :: y34 :: y35 :: y36 :: y37 :: y38 :: y39 :: y40 :: y41 :: y42 :: y43 :: y44 :: y45 :: y46 :: y47 :: y48 :: y49 :: y50 :: y51 :: y52 :: y53 :: y54 :: y55 :: y56 :: y57 :: y58 :: y59 :: y60 :: y61 :: y62 :: y63 :: y64 :: y65 :: y66 :: y67 :: y68 :: y69 :: y70 :: y71 :: y72 :: y73 :: y74 :: y75 :: y76 :: y77 :: y78 :: y79 :: y80 :: y81 :: y82 :: y83 :: y84 :: y85 :: y86 :: y87 :: y88 :: y89 :: y90 :: y91 :: y92 :: y93 :: y94 :: y95 :: y96 :: y97 :: y98 :: y99 :: y100 :: y101 :: y102 :: y103 :: y104 :: y105 :: y106 :: y107 :: y108 :: y109 :: y110 :: y111 :: y112 :: y113 :: y114 :: y115 :: y116 :: y117 :: y118 :: y119 :: y120 :: y121 :: y122 :: y123 :: y124 :: y125 :: y126 :: y127 :: y128 :: y129 :: y130 :: y131 :: y132 :: y133 :: y134 :: y135 :: y136 :: y137 :: y138 :: y139 :: y140 :: y141 :: y142 :: y143 :: y144 :: y145 :: y146 :: y147 :: y148 :: y149 :: y150 :: y151 :: y152 :: y153 :: y154 :: y155 :: y156 :: y157 :: y158 :: y159 :: y160 :: y161 :: y162 :: y163 :: y164 :: y165 :: y166 :: y167 :: y168 :: y169 :: y170 :: y171 :: y172 :: y173 :: y174 :: y175 :: y176 :: y177 :: y178 :: y179 :: y180 :: y181 :: y182 :: y183 :: y184 :: y185 :: y186 :: y187 :: y188 :: y189 :: y190 :: y191 :: y192 :: y193 :: y194 :: y195 :: v196 :: v197 :: v198 :: v199 :: v200 :: v201 :: v202 :: v203 :: v204 :: v205 :: v206 :: v207 :: v208 :: v209 :: v210 :: y211 :: y212 :: y213 :: y214 :: y215 :: y216 :: y217 :: y218 :: y219 :: y220 :: y221 :: y222 :: y223 :: y224 :: []), []⟩ w')) :
    Code.wp Tryd.prog ksR26 Q ⟨List.toArray (.pointer (some ⟨p, 0, none⟩) :: y1 :: y2 :: y3 :: y4 :: y5 :: y6 :: y7 :: y8 :: .pointer (some ⟨wd.heap.size, 0, none⟩) :: y10 :: y11 :: y12 :: y13 :: y14 :: y15 :: y16 :: y17 :: y18 :: y19 :: y20 :: y21 :: y22 :: y23 :: y24 :: y25 :: y26 :: y27 :: y28 :: y29 :: y30 :: y31 :: y32 :: y33 :: y34 :: y35 :: y36 :: y37 :: y38 :: y39 :: y40 :: y41 :: y42 :: y43 :: y44 :: y45 :: y46 :: y47 :: y48 :: y49 :: y50 :: y51 :: y52 :: y53 :: y54 :: y55 :: y56 :: y57 :: y58 :: y59 :: y60 :: y61 :: y62 :: y63 :: y64 :: y65 :: y66 :: y67 :: y68 :: y69 :: y70 :: y71 :: y72 :: y73 :: y74 :: y75 :: y76 :: y77 :: y78 :: y79 :: y80 :: y81 :: y82 :: y83 :: y84 :: y85 :: y86 :: y87 :: y88 :: y89 :: y90 :: y91 :: y92 :: y93 :: y94 :: y95 :: y96 :: y97 :: y98 :: y99 :: y100 :: y101 :: y102 :: y103 :: y104 :: y105 :: y106 :: y107 :: y108 :: y109 :: y110 :: y111 :: y112 :: y113 :: y114 :: y115 :: y116 :: y117 :: y118 :: y119 :: y120 :: y121 :: y122 :: y123 :: y124 :: y125 :: y126 :: y127 :: y128 :: y129 :: y130 :: y131 :: y132 :: y133 :: y134 :: y135 :: y136 :: y137 :: y138 :: y139 :: y140 :: y141 :: y142 :: y143 :: y144 :: y145 :: y146 :: y147 :: y148 :: y149 :: y150 :: y151 :: y152 :: y153 :: y154 :: y155 :: y156 :: y157 :: y158 :: y159 :: y160 :: y161 :: y162 :: y163 :: y164 :: y165 :: y166 :: y167 :: y168 :: y169 :: y170 :: y171 :: y172 :: y173 :: y174 :: y175 :: y176 :: y177 :: y178 :: y179 :: y180 :: y181 :: y182 :: y183 :: y184 :: y185 :: y186 :: y187 :: y188 :: y189 :: y190 :: y191 :: y192 :: y193 :: y194 :: y195 :: y196 :: y197 :: y198 :: y199 :: y200 :: y201 :: y202 :: y203 :: y204 :: y205 :: y206 :: y207 :: y208 :: y209 :: y210 :: y211 :: y212 :: y213 :: y214 :: y215 :: y216 :: y217 :: y218 :: y219 :: y220 :: y221 :: y222 :: y223 :: y224 :: []), []⟩ wr := by
  conv => arg 2; whnf
  have HX2 : Hid (wr.heap[wd.heap.size]? = some (.cells #[.int .i64 rv, .int .u64 rb, .int .u64 r0, .int .u64 r1, .int .u64 r2, .int .u64 r3] 26 (0, 0))) := hX
  have HB2 : Hid (Below wd.heap.size wd wr) := hbw
  have HPW2 : Hid (p < wd.heap.size) := hpl
  have HL1 : Hid (wr.cell? ⟨p, 1, none⟩ = some (.int .i64 (ln : Int))) := l1
  obtain ⟨ov, hov⟩ : ∃ ov, (#[.int .i64 rv, .int .u64 rb, .int .u64 r0, .int .u64 r1, .int .u64 r2, .int .u64 r3] : Array Value)[2 + ln]? = some ov := by
    rcases (by omega : ln = 0 ∨ ln = 1 ∨ ln = 2 ∨ ln = 3) with rfl | rfl | rfl | rfl <;> exact ⟨_, rfl⟩
  have HOV : Hid ((#[.int .i64 rv, .int .u64 rb, .int .u64 r0, .int .u64 r1, .int .u64 r2, .int .u64 r3] : Array Value)[2 + ln]? = some ov) := hov
  have n1 : (0 : Int) ≤ (ln : Int) := by omega
  have n2 : (ln : Int) < 4 := by omega
  have HS1 : Hid (∀ W, Below wr.heap.size wr W → Below wd.heap.size wd W ∧ W.cell? ⟨p, 1, none⟩ = some (.int .i64 (ln : Int)) ∧ W.cell? ⟨wd.heap.size, 0, none⟩ = some (.int .i64 rv) ∧ W.cell? ⟨wd.heap.size, 1, none⟩ = some (.int .u64 rb)) := fun W hW => by
    have hq := (hW.block _ (lt_at HX2.out)).trans HX2.out
    exact ⟨bnext HB2.out hW, (hW.cell (p := ⟨p, 1, none⟩) (Nat.lt_of_lt_of_le HPW2.out HB2.out.size)).trans HL1.out, cell_at hq 0, cell_at hq 1⟩
  have HS2 : Hid (∀ W x, Below wr.heap.size wr W → Below wd.heap.size wd (W.setCell ⟨wd.heap.size, 2 + ln, none⟩ x) ∧ (W.setCell ⟨wd.heap.size, 2 + ln, none⟩ x).cell? ⟨p, 1, none⟩ = some (.int .i64 (ln : Int)) ∧ (W.setCell ⟨wd.heap.size, 2 + ln, none⟩ x).cell? ⟨wd.heap.size, 0, none⟩ = some (.int .i64 rv) ∧ (W.setCell ⟨wd.heap.size, 2 + ln, none⟩ x).cell? ⟨wd.heap.size, 1, none⟩ = some (.int .u64 rb)) := fun W x hW => by
    have hq := (hW.block _ (lt_at HX2.out)).trans HX2.out
    have hq2 := heap_store hq (i := 2 + ln) x
    have hp1 := HPW2.out
    refine ⟨(bnext HB2.out hW).setCell (p := ⟨wd.heap.size, 2 + ln, none⟩) (Nat.le_refl _) _, ?_, (cell_at hq2 0).trans (by rw [Array.getElem?_setIfInBounds_ne (by omega)]; rfl), (cell_at hq2 1).trans (by rw [Array.getElem?_setIfInBounds_ne (by omega)]; rfl)⟩
    rw [World.cell?_of_block (heap_store_ne x (by omega : p ≠ wd.heap.size))]
    exact (hW.cell (p := ⟨p, 1, none⟩) (Nat.lt_of_lt_of_le HPW2.out HB2.out.size)).trans HL1.out
  have hcc := HS1.out wr (Below.refl _ _)
  have k0c := hcc.2.2.1
  have k1c := hcc.2.2.2
  clear hov hX hbw hcc
  go_region_held3 (fun W => Below wd.heap.size wd W ∧ W.cell? ⟨p, 1, none⟩ = some (.int .i64 (ln : Int)) ∧ W.cell? ⟨wd.heap.size, 0, none⟩ = some (.int .i64 rv) ∧ W.cell? ⟨wd.heap.size, 1, none⟩ = some (.int .u64 rb))
    (first | (exact HS1.out _ (Below.refl _ _)) | (exact HS1.out _ (Below.refl _ _).drew) | (exact HS1.out _ HB6.out) | (exact HS2.out _ _ HB6.out))
    ((go_at_call 11; refine (HSE.out wr.drew ((HTB.out.below HB2.out).same rfl) ln rv rb (by omega) (by omega) HLL.out.1 HLL.out.2.1 HLL.out.2.2).mono ?_; rintro e w5 ⟨rfl, hb5⟩; have hb6 : Below wr.heap.size wr w5 := ⟨hb5.os, hb5.tape, hb5.output, hb5.size, hb5.block⟩; have hx5 := (hb6.block _ (lt_at HX2.out)).trans HX2.out; have xo : w5.cell? ⟨wd.heap.size, 2 + ln, none⟩ = some ov := (cell_at hx5 (2 + ln)).trans HOV.out; have xf := free_at hx5; have HB6 : Hid (Below wr.heap.size wr w5) := hb6; clear hb5 hb6 hx5))
  all_goals (
    exact HEX.out ⟨_, HB6.out, rfl⟩)
end Go.Proofs.YtkehpnobidendaaDoor

namespace Go.Proofs.YtkehpnobidendaaDoor
open Go.RowKit
attribute [local go_sem ↓] app_c

/-- Does a code begin with this region? -/
def starts (n : Nat) : Code → Bool
  | .region k _ _ => k == n
  | .seq a _ => starts n a
  | _ => false
/-- The part of a code that begins with this region. -/
def fromReg (n : Nat) : Code → Option Code
  | .seq a b => if starts n a then some (.seq a b) else match fromReg n a with
    | some c => some c
    | none => fromReg n b
  | .loop c => fromReg n c
  | .block _ c => fromReg n c
  | .scope c => fromReg n c
  | .cond _ a b => match fromReg n a with
    | some c => some c
    | none => fromReg n b
  | _ => none
def Clu.ended (K : Clu) (v : Int) (n : Nat) (cs : Crt × Int) : Clu := if 3 ≤ (K.sum1 v n cs).2 then K.addC (K.sum1 v n cs).1 else K
noncomputable def ksE : Code := ((Tryd.f38.body.bind (fromReg 25))).getD .skip
set_option maxRecDepth 1000000 in
set_option maxHeartbeats 8000000 in
theorem ks_end {y1 y2 y3 y4 y5 y6 y7 y8 y11 y12 y13 y14 y15 y16 y17 y18 y19 y20 y21 y22 y23 y24 y25 y26 y27 y28 y29 y30 y31 y32 y33 y34 y35 y36 y37 y38 y39 y40 y41 y42 y43 y44 y45 y46 y47 y48 y49 y50 y51 y52 y53 y54 y55 y56 y57 y58 y59 y60 y61 y62 y63 y64 y65 y66 y67 y68 y69 y70 y71 y72 y73 y74 y75 y76 y77 y78 y79 y80 y81 y82 y83 y84 y85 y86 y87 y88 y89 y90 y91 y92 y93 y94 y95 y96 y97 y98 y99 y100 y101 y102 y103 y104 y105 y106 y107 y108 y109 y110 y111 y112 y113 y114 y115 y116 y117 y118 y119 y120 y121 y122 y123 y124 y125 y126 y127 y128 y129 y130 y131 y132 y133 y134 y135 y136 y137 y138 y139 y140 y141 y142 y143 y144 y145 y146 y147 y148 y149 y150 y151 y152 y153 y154 y155 y156 y157 y158 y159 y160 y161 y162 y163 y164 y165 y166 y167 y168 y169 y170 y171 y172 y173 y174 y175 y176 y177 y178 y179 y180 y181 y182 y183 y184 y185 y186 y187 y188 y189 y190 y191 y192 y193 y194 y195 y196 y197 y198 y199 y200 y201 y202 y203 y204 y205 y206 y207 y208 y209 y210 y211 y212 y213 y214 y215 y216 y217 y218 y219 y220 y221 y222 y223 y224 : Value} {p mn : Nat} {wd wr : World} {S4 : Nat → Prop} {ps : List (Option Nat)} {K3 : Clu} {rv r0 r1 r2 r3 : Int} {rb : Nat} {Q : Exit → Act → World → Prop}
    (HM4 : Hid (KMem wd p S4 ps K3)) (HOK : Hid (K3.Ok ∧ K3.certs.length ≤ 1700000000)) (hmn : mn ≤ 1700000000) (hbw : Hid (Below wd.heap.size wd wr)) (hX : Hid (wr.heap[wd.heap.size]? = some (.cells #[.int .i64 rv, .int .u64 rb, .int .u64 r0, .int .u64 r1, .int .u64 r2, .int .u64 r3] 26 (0, 0)))) (HLL : Hid (-9223372036854775808 ≤ rv ∧ rv ≤ 9223372036854775807 ∧ rb < 18446744073709551616))
    (HSE : Hid (∀ W, Tab W → ∀ (m v : Int) (u : Nat), 0 ≤ m → m ≤ 3 → -9223372036854775808 ≤ v → v ≤ 9223372036854775807 → u < 18446744073709551616 → Calls Tryd.prog 11 #[.int .i64 m, .int .i64 2, .int .i64 v, .int .u64 u] W fun e w' => e = .returned (.int .u64 (sealOf m 2 v u)) ∧ Below W.heap.size W w'))
    (HEX : Hid (∀ {v10 v191 v192 v193 v194 v195 v196 v197 v198 v199 v200 v201 v202 v203 v204 v205 v206 v207 v208 v209 v210 v211 v212 v213 v214 v215 v216 v217 v218 v219 v220 v221 v222 v223 v224 : Value} {w' : World}, (∃ S5, KMem w' p S5 ps (K3.ended rv rb (⟨rv, rb, r0, r1, r2, r3⟩, (mn : Int))) ∧ Grow S4 wd S5 ∧ Fr S4 wd w') → Q .normal ⟨List.toArray (.pointer (some ⟨p, 0, none⟩) :: y1 :: y2 :: y3 :: y4 :: y5 :: y6 :: y7 :: y8 :: .pointer (some ⟨wd.heap.size, 0, none⟩) :: v10 :: y11 :: y12 :: y13 :: y14 :: y15 :: y16 :: y17 :: y18 :: y19 :: y20 :: y21 :: y22 :: y23 :: y24 :: y25 :: y26 :: y27 :: y28 :: y29 :: y30 :: y31 :: y32 :: y33 :: y34 :: y35 :: y36 :: y37 :: y38 :: y39 :: y40 :: y41 :: y42 :: y43 :: y44 :: y45 :: y46 :: y47 :: y48 :: y49 :: y50 :: y51 :: y52 :: y53 :: y54 :: y55 :: y56 :: y57 :: y58 :: y59 :: y60 :: y61 :: y62 :: y63 :: y64 :: y65 :: y66 :: y67 :: y68 :: y69 :: y70 :: y71 :: y72 :: y73 :: y74 :: y75 :: y76 :: y77 :: y78 :: y79 :: y80 :: y81 :: y82 :: y83 :: y84 :: y85 :: y86 :: y87 :: y88 :: y89 :: y90 :: y91 :: y92 :: y93 :: y94 :: y95 :: y96 :: y97 :: y98 :: y99 :: y100 :: y101 :: y102 :: y103 :: y104 :: y105 :: y106 :: y107 :: y108 :: y109 :: y110 :: y111 :: y112 :: y113 :: y114 :: y115 :: y116 :: y117 :: y118 :: y119 :: y120 :: y121 :: y122 :: y123 :: y124 :: y125 :: y126 :: y127 :: y128 :: y129 :: y130 :: y131 :: y132 :: y133 :: y134 :: y135 :: y136 :: y137 :: y138 :: y139 :: y140 :: y141 :: y142 :: y143 :: y144 :: y145 :: y146 :: y147 :: y148 :: y149 :: y150 :: y151 :: y152 :: y153 :: y154 :: y155 :: y156 :: y157 :: y158 :: y159 :: y160 :: y161 :: y162 :: y163 :: y164 :: y165 :: y166 :: y167 :: y168 :: y169 :: y170 :: y171 :: y172 :: y173 :: y174 :: y175 :: y176 :: y177 :: y178 :: y179 :: y180 :: y181 :: y182 :: y183 :: y184 :: y185 :: y186 :: y187 :: y188 :: y189 :: y190 :: v191 :: v192 :: v193 :: v194 :: v195 :: v196 :: v197 :: v198 :: v199 :: v200 :: v201 :: v202 :: v203 :: v204 :: v205 :: v206 :: v207 :: v208 :: v209 :: v210 :: v211 :: v212 :: v213 :: v214 :: v215 :: v216 :: v217 :: v218 :: v219 :: v220 :: v221 :: v222 :: v223 :: v224 :: []), []⟩ w')) :
    Code.wp Tryd.prog ksE Q ⟨List.toArray (.pointer (some ⟨p, 0, none⟩) :: y1 :: y2 :: y3 :: y4 :: y5 :: y6 :: y7 :: y8 :: .pointer (some ⟨wd.heap.size, 0, none⟩) :: .int .i64 (mn : Int) :: y11 :: y12 :: y13 :: y14 :: y15 :: y16 :: y17 :: y18 :: y19 :: y20 :: y21 :: y22 :: y23 :: y24 :: y25 :: y26 :: y27 :: y28 :: y29 :: y30 :: y31 :: y32 :: y33 :: y34 :: y35 :: y36 :: y37 :: y38 :: y39 :: y40 :: y41 :: y42 :: y43 :: y44 :: y45 :: y46 :: y47 :: y48 :: y49 :: y50 :: y51 :: y52 :: y53 :: y54 :: y55 :: y56 :: y57 :: y58 :: y59 :: y60 :: y61 :: y62 :: y63 :: y64 :: y65 :: y66 :: y67 :: y68 :: y69 :: y70 :: y71 :: y72 :: y73 :: y74 :: y75 :: y76 :: y77 :: y78 :: y79 :: y80 :: y81 :: y82 :: y83 :: y84 :: y85 :: y86 :: y87 :: y88 :: y89 :: y90 :: y91 :: y92 :: y93 :: y94 :: y95 :: y96 :: y97 :: y98 :: y99 :: y100 :: y101 :: y102 :: y103 :: y104 :: y105 :: y106 :: y107 :: y108 :: y109 :: y110 :: y111 :: y112 :: y113 :: y114 :: y115 :: y116 :: y117 :: y118 :: y119 :: y120 :: y121 :: y122 :: y123 :: y124 :: y125 :: y126 :: y127 :: y128 :: y129 :: y130 :: y131 :: y132 :: y133 :: y134 :: y135 :: y136 :: y137 :: y138 :: y139 :: y140 :: y141 :: y142 :: y143 :: y144 :: y145 :: y146 :: y147 :: y148 :: y149 :: y150 :: y151 :: y152 :: y153 :: y154 :: y155 :: y156 :: y157 :: y158 :: y159 :: y160 :: y161 :: y162 :: y163 :: y164 :: y165 :: y166 :: y167 :: y168 :: y169 :: y170 :: y171 :: y172 :: y173 :: y174 :: y175 :: y176 :: y177 :: y178 :: y179 :: y180 :: y181 :: y182 :: y183 :: y184 :: y185 :: y186 :: y187 :: y188 :: y189 :: y190 :: y191 :: y192 :: y193 :: y194 :: y195 :: y196 :: y197 :: y198 :: y199 :: y200 :: y201 :: y202 :: y203 :: y204 :: y205 :: y206 :: y207 :: y208 :: y209 :: y210 :: y211 :: y212 :: y213 :: y214 :: y215 :: y216 :: y217 :: y218 :: y219 :: y220 :: y221 :: y222 :: y223 :: y224 :: []), []⟩ wr := by
  conv => arg 2; whnf
  obtain ⟨zm, zl, zc, zv, z0, z1, z2, z3, zb, hB⟩ := HM4.out.ex
  have q1 : wd.cell? ⟨p, 1, none⟩ = some (.int .i64 K3.liar) := cell_at hB.box 1
  have hpl : p < wd.heap.size := lt_at hB.box
  have HTB : Hid (Tab wd) := HM4.out.tab
  have l1 := (hbw.out.cell (p := ⟨p, 1, none⟩) hpl).trans q1
  have HO1 := HOK.out.1.l1
  clear hB q1
  by_cases hli : 0 ≤ K3.liar
  · obtain ⟨ln, hlq⟩ : ∃ n : Nat, K3.liar = (n : Int) := ⟨K3.liar.toNat, by omega⟩
    have hl4 : ln < 4 := by omega
    have HPT2 : Hid (K3.ended rv rb (⟨rv, rb, r0, r1, r2, r3⟩, (mn : Int)) = (if (3 : Int) ≤ ((⟨rv, rb, r0, r1, r2, r3⟩ : Crt).put ln (sealOf ln 2 rv rb), (((mn + 1 : Nat)) : Int)).2 then K3.addC ((⟨rv, rb, r0, r1, r2, r3⟩ : Crt).put ln (sealOf ln 2 rv rb), (((mn + 1 : Nat)) : Int)).1 else K3)) := by
      show _ = _
      unfold Clu.ended Clu.sum1
      rw [if_pos hli, hlq]
      rfl
    rw [hlq] at l1
    have hln0 : (0 : Int) ≤ (ln : Int) := by omega
    clear hlq HO1 hli
    have HX2 : Hid (wr.heap[wd.heap.size]? = some (.cells #[.int .i64 rv, .int .u64 rb, .int .u64 r0, .int .u64 r1, .int .u64 r2, .int .u64 r3] 26 (0, 0))) := hX
    have HB2 : Hid (Below wd.heap.size wd wr) := hbw
    clear hX hbw
    go_upto_region 26 with fail
    go_cut [] from 191 to 224 (fun w' => Hid (∃ W, Below wr.heap.size wr W ∧ w' = W.setCell ⟨wd.heap.size, 2 + ln, none⟩ (.int .u64 (sealOf ln 2 rv rb))))
    case first =>
      refine ks_r26 HX2 HB2 hpl l1 hl4 HLL HTB HSE ?_
      intro x196 x197 x198 x199 x200 x201 x202 x203 x204 x205 x206 x207 x208 x209 x210 w' hw'
      go_wp2
      go_meet
      case rel => exact hw'
    case rest =>
      obtain ⟨W5, hb5, hw5⟩ := hcut.out
      have hx5 := (hb5.block _ (lt_at HX2.out)).trans HX2.out
      have HXT : Hid (wc.heap[wd.heap.size]? = some (.cells (((⟨rv, rb, r0, r1, r2, r3⟩ : Crt).put ln (sealOf ln 2 rv rb)).cells.toArray) 26 (0, 0))) := by
        rw [hw5]
        have hq := heap_store hx5 (i := 2 + ln) (.int .u64 (sealOf ln 2 rv rb))
        rw [putc rv rb r0 r1 r2 r3 ln hl4] at hq
        exact hq
      have HBT : Hid (Below wd.heap.size wd wc) := by rw [hw5]; exact (bnext HB2.out hb5).setCell (p := ⟨wd.heap.size, 2 + ln, none⟩) (Nat.le_refl _) _
      clear hcut hx5 hw5 hb5 HX2 HB2 l1 HLL HTB
      obtain ⟨wf, rfl⟩ : ∃ wf, wf = wc := ⟨_, rfl⟩
      obtain ⟨cc, hcc⟩ : ∃ cc, cc = (⟨rv, rb, r0, r1, r2, r3⟩ : Crt).put ln (sealOf ln 2 rv rb) := ⟨_, rfl⟩
      rw [← hcc] at HXT HPT2
      clear hcc
      obtain ⟨d0, d1, d2, d3, d4, d5⟩ := cc
      dsimp only [Crt.cells] at HXT
      have hmn2 : mn + 1 ≤ 1700000001 := by omega
      go_upto_region 28 with fail
      have HKT : Hid (KMem wf p S4 ps K3) := HM4.out.below HBT.out
      have HFT : Hid (Fr S4 wd wf) := Fr.of_below HBT.out
      by_cases h3 : 3 ≤ (mn + 1)
      · have h3i : (3 : Int) ≤ (((mn + 1) : Nat) : Int) := by omega
        have HPX : Hid (K3.ended rv rb (⟨rv, rb, r0, r1, r2, r3⟩, (mn : Int)) = K3.addC ⟨d0, d1, d2, d3, d4, d5⟩) := by
          show _ = _
          rw [HPT2.out]
          dsimp only
          rw [if_pos h3i]
        obtain ⟨al, cl, a7, c7, w7, hrun, hap⟩ := HKT.out.appC ⟨d0, d1, d2, d3, d4, d5⟩ (by have := HOK.out.2; omega)
        have q3 := hap.c0
        have q3a := hap.ca
        have q7 := hap.c1
        have fz7 := hap.f1
        have HFIN : Hid (∃ S5, KMem (w7.setCell ⟨p, 3, none⟩ (.slice a7 (K3.certs.length + 1) c7)) p S5 ps (K3.addC ⟨d0, d1, d2, d3, d4, d5⟩) ∧ Grow S4 wd S5 ∧ Fr S4 wd (w7.setCell ⟨p, 3, none⟩ (.slice a7 (K3.certs.length + 1) c7))) := by
          obtain ⟨S5, hM5, hG5, hF5⟩ := hap.ex
          exact ⟨S5, hM5, (Grow.refl S4 wd).trans HFT.out.size hG5, HFT.out.trans hF5 (fun _ h => .inl h)⟩
        have e0 := cell_at HXT.out 0
        have e1 := cell_at HXT.out 1
        have e2 := cell_at HXT.out 2
        have e3 := cell_at HXT.out 3
        have e4 := cell_at HXT.out 4
        have e5 := cell_at HXT.out 5
        simp at e0 e1 e2 e3 e4 e5
        dsimp only [Crt.cells] at hrun
        clear hap
        go_upto_region 29 with fail
        refine ks_r29 hrun q3 q3a q7 fz7 e0 e1 e2 e3 e4 e5 ?_
        intro x215 x216 x217 x218 x219 x220 x221 x222 x223 x224
        refine HEX.out ?_
        rw [HPX.out]
        exact HFIN.out
      · have h3i : ¬ (3 : Int) ≤ (((mn + 1) : Nat) : Int) := by omega
        have HPX : Hid (K3.ended rv rb (⟨rv, rb, r0, r1, r2, r3⟩, (mn : Int)) = K3) := by
          show _ = _
          rw [HPT2.out]
          dsimp only
          rw [if_neg h3i]
        go_wp2
        refine HEX.out ?_
        rw [HPX.out]
        exact ⟨S4, HKT.out, Grow.refl _ _, HFT.out⟩
  · have HPT2 : Hid (K3.ended rv rb (⟨rv, rb, r0, r1, r2, r3⟩, (mn : Int)) = (if (3 : Int) ≤ ((⟨rv, rb, r0, r1, r2, r3⟩ : Crt), (mn : Int)).2 then K3.addC ((⟨rv, rb, r0, r1, r2, r3⟩ : Crt), (mn : Int)).1 else K3)) := by
      show _ = _
      unfold Clu.ended Clu.sum1
      rw [if_neg hli]
    have hlb : ¬ (0 : Int) ≤ K3.liar := hli
    clear HO1
    go_upto_region 28 with fail
    have HBT : Hid (Below wd.heap.size wd wr) := hbw
    have HXT : Hid (wr.heap[wd.heap.size]? = some (.cells #[.int .i64 rv, .int .u64 rb, .int .u64 r0, .int .u64 r1, .int .u64 r2, .int .u64 r3] 26 (0, 0))) := hX
    clear l1 hlb hli hbw hX HTB
    have HKT : Hid (KMem wr p S4 ps K3) := HM4.out.below HBT.out
    have HFT : Hid (Fr S4 wd wr) := Fr.of_below HBT.out
    by_cases h3 : 3 ≤ mn
    · have h3i : (3 : Int) ≤ ((mn : Nat) : Int) := by omega
      have HPX : Hid (K3.ended rv rb (⟨rv, rb, r0, r1, r2, r3⟩, (mn : Int)) = K3.addC ⟨rv, rb, r0, r1, r2, r3⟩) := by
        show _ = _
        rw [HPT2.out]
        dsimp only
        rw [if_pos h3i]
      obtain ⟨al, cl, a7, c7, w7, hrun, hap⟩ := HKT.out.appC ⟨rv, rb, r0, r1, r2, r3⟩ (by have := HOK.out.2; omega)
      have q3 := hap.c0
      have q3a := hap.ca
      have q7 := hap.c1
      have fz7 := hap.f1
      have HFIN : Hid (∃ S5, KMem (w7.setCell ⟨p, 3, none⟩ (.slice a7 (K3.certs.length + 1) c7)) p S5 ps (K3.addC ⟨rv, rb, r0, r1, r2, r3⟩) ∧ Grow S4 wd S5 ∧ Fr S4 wd (w7.setCell ⟨p, 3, none⟩ (.slice a7 (K3.certs.length + 1) c7))) := by
        obtain ⟨S5, hM5, hG5, hF5⟩ := hap.ex
        exact ⟨S5, hM5, (Grow.refl S4 wd).trans HFT.out.size hG5, HFT.out.trans hF5 (fun _ h => .inl h)⟩
      have e0 := cell_at HXT.out 0
      have e1 := cell_at HXT.out 1
      have e2 := cell_at HXT.out 2
      have e3 := cell_at HXT.out 3
      have e4 := cell_at HXT.out 4
      have e5 := cell_at HXT.out 5
      simp at e0 e1 e2 e3 e4 e5
      dsimp only [Crt.cells] at hrun
      clear hap
      go_upto_region 29 with fail
      refine ks_r29 hrun q3 q3a q7 fz7 e0 e1 e2 e3 e4 e5 ?_
      intro x215 x216 x217 x218 x219 x220 x221 x222 x223 x224
      refine HEX.out ?_
      rw [HPX.out]
      exact HFIN.out
    · have h3i : ¬ (3 : Int) ≤ ((mn : Nat) : Int) := by omega
      have HPX : Hid (K3.ended rv rb (⟨rv, rb, r0, r1, r2, r3⟩, (mn : Int)) = K3) := by
        show _ = _
        rw [HPT2.out]
        dsimp only
        rw [if_neg h3i]
      go_wp2
      refine HEX.out ?_
      rw [HPX.out]
      exact ⟨S4, HKT.out, Grow.refl _ _, HFT.out⟩
end Go.Proofs.YtkehpnobidendaaDoor
