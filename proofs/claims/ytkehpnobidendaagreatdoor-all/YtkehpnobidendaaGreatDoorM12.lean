/- The document's member: a call ends (ends): it proposes, if it may. The document's New: a member, or none. -/
import Derived.Test.YtkehpnobidendaaGreatDoorM11
import Derived.Deep.DeepCutAuto
namespace Go.Proofs.YtkehpnobidendaaGreatDoor
open Go.RowKit

theorem Gave.since {w w1 w' : World} {p : Nat} {S S1 : Nat → Prop} {B : Nat} {m : Mem} {v : Value} {l : List Ltr} (h : Gave w1 w' p S1 B m v l) (hg : Grow S w S1) (hf : Fr S w w1) : Gave w w' p S B m v l := by
  obtain ⟨S', h1, h2, h3, h4⟩ := h
  exact ⟨S', h1, hg.trans hf.size h2, hf.grow hg h3, h4⟩
theorem load_blk (a : Addr) : loadVar 41 a = rowVar 41 a := rfl
attribute [local go_sem ↓] load_blk
theorem blk_whole (w : World) (g : Nat) (cs : Array Value) (h : w.heap[g]? = some (.cells cs 41 (0, 0))) (hs : cs.size = 8) : (rowVar 41 ⟨g, 0, none⟩).run Tryz.prog w = .ok (.agg cs) w :=
  rowVar_whole w g _ _ cs _ _ h Tryz.underlying41 rfl (by rw [hs]; exact blk_size)
theorem headD_le {l : List ByteArray} (h : ∀ c ∈ l, c.size ≤ 16) : (l.headD ⟨#[]⟩).size ≤ 140737488351232 := by
  cases l with
  | nil => exact Nat.zero_le _
  | cons a r => have := h a (by simp); simp; omega
theorem RMem.id {w : World} {p : Nat} {S : Nat → Prop} {B : Nat} {m : Mem} {out : List Ltr} (h : RMem w p S B m out) : w.cell? ⟨p, 0, none⟩ = some (.int .i64 m.id) := by
  obtain ⟨vb, vv, ve, vp, vl, vq, vo, h, _⟩ := h
  exact cell_at h.box 0
theorem knows_id (m : Mem) (b : Blk) : (m.knows b).id = m.id := by unfold Mem.knows; split <;> rfl
/-- The proposal that it sends. -/
def propMsg (v : Int) (b : Blk) (fro sl : Int) : Msg := ⟨1, fro, v, b, 0, ⟨0, 0, 0, 0, 0, 0⟩, sl⟩
theorem rsendsP (w : World) (p : Nat) (S : Nat → Prop) (m : Mem) (B : Nat) (hBw : B ≤ w.heap.size) (out : List Ltr) (h : RMem w p S B m out) (v bv jv : Int) (jb : Nat) (j0 j1 j2 j3 : Int) (bc : ByteArray) (sl : Int) (hn : out.length ≤ 1000) :
    Calls Tryz.prog 41 #[.pointer (some ⟨p, 0, none⟩), .int .i64 (-1), .agg #[.int .i64 1, .int .i64 0, .int .i64 v, .int .i64 bv, .int .i64 jv, .int .u64 jb, .int .u64 j0, .int .u64 j1, .int .u64 j2, .int .u64 j3, .string bc, .int .u64 0, .int .i64 0, .int .u64 0, .int .u64 0, .int .u64 0, .int .u64 0, .int .u64 0, .int .u64 sl]] w fun e w' => e = .returned (.tuple #[]) ∧ ∃ S', RMem w' p S' B m (out ++ [⟨-1, propMsg v ⟨bv, ⟨jv, jb, j0, j1, j2, j3⟩, bc⟩ m.id sl⟩]) ∧ Grow S w S' ∧ Fr S w w' :=
  rsends w p S m B hBw out h (-1) (propMsg v ⟨bv, ⟨jv, jb, j0, j1, j2, j3⟩, bc⟩ 0 sl) hn
/-- The member that has taken a command, and has noted that it proposes. -/
def Mem.noted (m : Mem) : Mem := { m with queue := m.queue.tail, proposed := m.proposed ++ [m.view] }
theorem ends_yes {m : Mem} (h : m.may = true) : m.ends = (m.noted.knows m.next, [⟨-1, propMsg m.view m.next m.id (sealOf m.id 1 m.view m.next.num)⟩]) := by
  unfold Mem.ends; rw [if_pos h]; rfl
theorem ends_no {m : Mem} (h : m.may = false) : m.ends = (m, []) := by
  unfold Mem.ends; rw [if_neg (by rw [h]; decide)]

set_option maxRecDepth 100000 in
set_option maxHeartbeats 2000000 in
theorem rends (w : World) (p : Nat) (S : Nat → Prop) (m : Mem) (B : Nat) (hBw : B ≤ w.heap.size) (out : List Ltr) (h : RMem w p S B m out) (i0 : 0 ≤ m.id) (i1 : m.id ≤ 3) (v0 : 0 ≤ m.view) (v1 : m.view ≤ 1000) (hn : m.blocks.length ≤ 1700000000000) (hp1 : m.proposed.length ≤ 1700000000000) (ho : out.length ≤ 900) (hh : m.high.Ok) (hq : ∀ c ∈ m.queue, c.size ≤ 16) :
    Calls Tryz.prog 42 #[.pointer (some ⟨p, 0, none⟩)] w fun e w' => ∃ v, e = .returned v ∧ Gave w w' p S B m.ends.1 v (out ++ m.ends.2) := by
  obtain ⟨vb, vv, ve, vp, vl, vq, vo, h, hB⟩ := h
  have HO : Hid (∀ k, vo.ownBlock = some k → B ≤ k) := hB
  clear hB
  have hrp : Row w S 3 1 vp m.proposed.length (m.proposed.flatMap icells) := h.row 3 _ _ _ rfl rfl rfl
  have hre : Row w S 113 4 ve m.enters.length (m.enters.flatMap Tk.cells) := h.row 2 _ _ _ rfl rfl rfl
  have c0 : w.cell? ⟨p, 0, none⟩ = some (.int .i64 m.id) := cell_at h.box 0
  have c2 : w.cell? ⟨p, 2, none⟩ = some (.int .i64 m.view) := cell_at h.box 2
  have c20 : w.cell? ⟨p, 20, none⟩ = some vp := cell_at h.box 20
  have c19 : w.cell? ⟨p, 19, none⟩ = some ve := cell_at h.box 19
  have hle := hre.le
  obtain ⟨ap, capp, rfl⟩ := hrp.isSlice
  obtain ⟨ae, cape, rfl⟩ := hre.isSlice
  have HP : Hid (Row w S 3 1 (.slice ap m.proposed.length capp) m.proposed.length (m.proposed.flatMap icells)) := hrp
  have HE : Hid (Row w S 113 4 (.slice ae m.enters.length cape) m.enters.length (m.enters.flatMap Tk.cells)) := hre
  have c22 : w.cell? ⟨p, 22, none⟩ = some vq := cell_at h.box 22
  have c5 : w.cell? ⟨p, 5, none⟩ = some (.int .i64 m.high.view) := cell_at h.box 5
  have c6 : w.cell? ⟨p, 6, none⟩ = some (.int .u64 m.high.block) := cell_at h.box 6
  have c7 : w.cell? ⟨p, 7, none⟩ = some (.int .u64 m.high.s0) := cell_at h.box 7
  have c8 : w.cell? ⟨p, 8, none⟩ = some (.int .u64 m.high.s1) := cell_at h.box 8
  have c9 : w.cell? ⟨p, 9, none⟩ = some (.int .u64 m.high.s2) := cell_at h.box 9
  have c10 : w.cell? ⟨p, 10, none⟩ = some (.int .u64 m.high.s3) := cell_at h.box 10
  have c23 : w.cell? ⟨p, 23, none⟩ = some vo := cell_at h.box 23
  have fz := free_at h.box
  have hp : p < w.heap.size := lt_at h.box
  obtain ⟨aq, capq, rfl⟩ := (h.row 5 _ _ _ rfl rfl rfl : Row w S 9 1 vq m.queue.length (m.queue.flatMap scells)).isSlice
  have H : Hid (Bun w p 59 S (rcells m vb vv (.slice ae m.enters.length cape) (.slice ap m.proposed.length capp) vl (.slice aq m.queue.length capq) vo) [vb, vv, (.slice ae m.enters.length cape), (.slice ap m.proposed.length capp), vl, (.slice aq m.queue.length capq), vo] rE (rX m out)) := h
  have HLT : Hid (∀ k, S k → k < w.heap.size) := h.lt
  have hvh0 := hh.v0
  have hvh1 := hh.v1
  clear hrp hre h
  have HQ : Hid (∀ c ∈ m.queue, c.size ≤ 16) := hq
  clear hq
  go_enter Tryz.func42, Tryz.ntmps42
  go_wp2
  go_loop [4, 5] (fun y i => ∃ k : Nat, k ≤ m.proposed.length ∧ i = .int .i64 k ∧ y = .bool (mayUp m k)) (fun _ i => m.proposed.length - (intOf i).toNat)
  case atStart => exact ⟨0, by omega, rfl, by simp [mayUp]⟩
  case round =>
    obtain ⟨k, hk, rfl, rfl⟩ := hrel
    by_cases hlt : k < m.proposed.length
    · obtain ⟨g, off, rfl, hSg, hg, hcap⟩ := HP.out.place (by omega)
      have q : w.cell? ⟨g, off + k, none⟩ = some (.int .i64 m.proposed[k]) := by have := HP.out.elem icells_len k 0 hlt (by omega); simpa [icells] using this
      have HS : Hid (mayUp m (k + 1) = (mayUp m k && (m.proposed[k] != m.view))) := mayUp_succ m k hlt
      generalize m.proposed[k] = pk at q HS
      generalize hY : mayUp m k = Y at *
      rcases Y with _ | _
      · go_wp2
        go_round
        case rel => exact ⟨k + 1, by omega, by go_num, by rw [HS.out]; rfl⟩
        case measure => simp [intOf]; omega
      · go_wp2
        go_round
        case rel => exact ⟨k + 1, by omega, by go_num, by rw [HS.out]; simp [bne]⟩
        case measure => simp [intOf]; omega
    · have hkl : k = m.proposed.length := by omega
      subst hkl
      go_wp2
      go_loop [6, 7] (fun y i => ∃ k : Nat, k ≤ m.enters.length ∧ i = .int .i64 k ∧ y = .int .i64 (entUp m k)) (fun _ i => m.enters.length - (intOf i).toNat)
      case atStart => exact ⟨0, by omega, rfl, rfl⟩
      case round =>
        obtain ⟨j, hj, rfl, rfl⟩ := hrel
        have hjl := entUp_le m j
        by_cases hjt : j < m.enters.length
        · obtain ⟨g, off, rfl, hSg, hg, hcap⟩ := HE.out.place (by omega)
          have q : w.cell? ⟨g, off + j * 4 + 1, none⟩ = some (.int .i64 m.enters[j].view) := by have := HE.out.elem tkcells_len j 1 hjt (by omega); simpa [Tk.cells, Nat.add_assoc] using this
          have HS : Hid (entUp m (j + 1) = entUp m j + (if m.enters[j].view == m.view then 1 else 0)) := entUp_succ m j hjt
          generalize m.enters[j].view = ev at q HS
          by_cases hev : ev = m.view
          · go_wp2
            go_round
            case rel => exact ⟨j + 1, by omega, by go_num, by rw [HS.out]; simp [hev]⟩
            case measure => simp [intOf]; omega
          · go_wp2
            go_round
            case rel => exact ⟨j + 1, by omega, by go_num, by rw [HS.out]; simp [hev]⟩
            case measure => simp [intOf]; omega
        · have hjl : j = m.enters.length := by omega
          subst hjl
          have HM : Hid (m.may = (mayUp m m.proposed.length && (m.high.view == m.view - 1 || decide (3 ≤ entUp m m.enters.length)))) := may_is m
          go_upto_region 13 with fail
          go_cut [79] (fun s w' => s = .bool m.may ∧ w = w')
          case first =>
            generalize hY : mayUp m m.proposed.length = Y at *
            generalize hE : entUp m m.enters.length = ne at *
            rcases Y with _ | _
            · go_wp2
              go_meet
              case rel => exact ⟨by rw [HM.out]; rfl, rfl⟩
            · rcases Bool.eq_false_or_eq_true (m.high.view == m.view - 1) with hh1 | hh1
              · go_wp2
                go_meet
                case rel => exact ⟨by rw [HM.out, hh1]; rfl, rfl⟩
              · go_wp2
                go_meet
                case rel => exact ⟨by rw [HM.out, hh1]; simp; omega, rfl⟩
          case rest =>
            obtain ⟨rfl, rfl⟩ := hcut
            have hmay : m.may = m.may := rfl
            revert hmay
            generalize hmy : m.may = my
            intro _
            have HMY : Hid (m.may = my) := hmy
            clear hmy
            rcases my with _ | _
            · go_wp2
              go_ret
              rw [ends_no HMY.out]
              refine ⟨_, rfl, ?_⟩
              rw [List.append_nil]
              exact rgive H.out HO.out
            · go_upto_if 91 with fail
              go_cut [] (fun w' => Hid (Deq w w' p S m out vb vv (.slice ae m.enters.length cape) (.slice ap m.proposed.length capp) vl vo))
              case first =>
                obtain hqq | ⟨c, qr, hqq⟩ : m.queue = [] ∨ ∃ c qr, m.queue = c :: qr := by cases m.queue <;> simp
                · have hql : m.queue.length = 0 := by rw [hqq]; rfl
                  have HQQ : Hid (m.queue = []) := hqq
                  have hqi : ¬ (0 : Int) < (m.queue.length : Int) := by omega
                  clear hqq hql
                  go_wp2
                  go_meet
                  case rel => exact deq_nil H.out HQQ.out
                · have hql0 : 0 < m.queue.length := by rw [hqq]; simp
                  have hqi : (0 : Int) < (m.queue.length : Int) := by omega
                  have hrq : Row w S 9 1 (.slice aq m.queue.length capq) m.queue.length (m.queue.flatMap scells) := H.out.row 5 _ _ _ rfl rfl rfl
                  obtain ⟨gq, offq, rfl, hSq, hgq, hcapq⟩ := hrq.place hql0
                  have qc : w.cell? ⟨gq, offq, none⟩ = some (.string c) := by have := hrq.elem scells_len 0 0 hql0 (by omega); simpa [scells, hqq] using this
                  have HRQ : Hid (Row w S 9 1 (.slice (some ⟨gq, offq, none⟩) m.queue.length capq) m.queue.length (m.queue.flatMap scells)) := hrq
                  have HQQ : Hid (m.queue = c :: qr) := hqq
                  clear hrq hqq
                  by_cases hc1 : capq = 1
                  · subst hc1
                    have hq1 : m.queue.length - 1 = 0 := by omega
                    go_wp2
                    go_meet
                    case rel =>
                      have ht := (HRQ.out.tail1 hql0).same (S' := fun k => (Value.slice (some ⟨gq, offq, none⟩) m.queue.length 1).ownBlock = some k) (fun k hk _ => ⟨rfl, by rw [hk]; rfl⟩)
                      rw [flat_tail] at ht
                      have := deq_put H.out HQQ.out ht
                      simp only [hq1] at this
                      exact this
                  · go_wp2
                    go_meet
                    case rel =>
                      have ht := (HRQ.out.tail hql0).same (S' := fun k => (Value.slice (some ⟨gq, offq, none⟩) m.queue.length capq).ownBlock = some k) (fun k hk _ => ⟨rfl, by rw [hk]; rfl⟩)
                      rw [flat_tail] at ht
                      exact deq_put H.out HQQ.out ht
              case rest =>
                obtain ⟨⟨vq', h2⟩, hbx, hfr, hsz⟩ := hcut.out
                clear hcut c0 c2 c5 c6 c7 c8 c9 c10 c19 c20 c22 c23 fz HP HE H
                have d20 : wc.cell? ⟨p, 20, none⟩ = some (.slice ap m.proposed.length capp) := cell_at h2.box 20
                have HR : Hid (Row wc S 3 1 (.slice ap m.proposed.length capp) m.proposed.length (m.proposed.flatMap icells)) := h2.row 3 _ _ _ rfl rfl rfl
                have H2 : Hid (Bun wc p 59 S (rcells m.deq vb vv (.slice ae m.enters.length cape) (.slice ap m.proposed.length capp) vl vq' vo) [vb, vv, (.slice ae m.enters.length cape), (.slice ap m.proposed.length capp), vl, vq', vo] rE (rX m.deq out)) := h2
                have HX : Hid (wc.heap[w.heap.size]? = some (.cells (nextCells m) 41 (0, 0))) := hbx
                have HFR : Hid (Fr S w wc) := hfr
                clear h2 hbx hfr
                go_wp2_with (at_builtin; refine wpList_append_row rfl (.tmp 111) (.tmp 113) 32 rfl S 3 (.int .i64 0) 1 8 Tryz.underlying32 info_int rfl (.slice ap m.proposed.length capp) m.proposed.length (m.proposed.flatMap icells) rfl (HR.out.alloc _) ⟨wc.heap.size, 0, none⟩ 1 1 [.int .i64 m.view] rfl rfl one_cell (by simp [Value.oneCell']) (by omega) (by unfold maxLen; omega) (by omega) ?_; intro v' w1 hr' hf; obtain ⟨a', cap', rfl⟩ := hr'.isSlice; have hb1 := (H2.out.alloc _).after 3 rfl hf; have q20 : w1.cell? ⟨p, 20, none⟩ = some (.slice ap m.proposed.length capp) := cell_at hb1 20; have q0 : w1.cell? ⟨p, 0, none⟩ = some (.int .i64 m.id) := cell_at hb1 0; have fz1 := free_at hb1; clear hb1; have HR' : Hid _ := hr'; have HF : Hid (Fr _ _ w1) := hf; clear hr' hf)
                have h3 := (H2.out.alloc _).put (C' := rcells m.noted vb vv (.slice ae m.enters.length cape) (.slice a' (m.proposed.length + 1) cap') vl vq' vo) (V' := [vb, vv, (.slice ae m.enters.length cape), (.slice a' (m.proposed.length + 1) cap'), vl, vq', vo]) (X' := rX m.noted out) 3 rfl rfl (.slice a' (m.proposed.length + 1) cap') (m.proposed.length + 1, m.proposed.flatMap icells ++ [.int .i64 m.view]) HR'.out HF.out 20 rfl rfl (by simp [rX, Mem.noted, Mem.deq, icells])
                have hS3 : Grow S w (fun k => S k ∨ (Value.slice a' (m.proposed.length + 1) cap').ownBlock = some k) := grow_put HR'.out (by have := HFR.out.size; simp; omega) (fun k hk => (HR.out.ownS hk).1)
                have hnot : ¬ (S w.heap.size ∨ (Value.slice a' (m.proposed.length + 1) cap').ownBlock = some w.heap.size) := fun hk => by
                  rcases hk with hk | hk
                  · have := HLT.out _ hk; omega
                  · rcases (HR'.out.ownS hk).1 with h | h
                    · have := HLT.out _ (HR.out.ownS h).1; omega
                    · simp at h; omega
                have hx3 : (w1.setCell ⟨p, 20, none⟩ (.slice a' (m.proposed.length + 1) cap')).heap[w.heap.size]? = some (.cells (nextCells m) 41 (0, 0)) := by
                  rw [heap_store_ne _ (fun e => by have := HLT.out p H2.out.sp; omega), HF.out.block _ (by have := hsz; simp; omega) (fun h => by have := HLT.out _ (HR.out.ownS h).1; omega), Below.heap_alloc _ _ _ hsz]
                  exact HX.out
                have hf3 := (H2.out.alloc _).frPut (HFR.out.trans (Fr.alloc S wc _) (fun _ hi => .inl hi)) 3 rfl HF.out 20 (.slice a' (m.proposed.length + 1) cap')
                have hm3 : RMem (w1.setCell ⟨p, 20, none⟩ (.slice a' (m.proposed.length + 1) cap')) p (fun k => S k ∨ (Value.slice a' (m.proposed.length + 1) cap').ownBlock = some k) B m.noted out := ⟨vb, vv, _, _, vl, vq', vo, h3, HO.out⟩
                clear h3 HR' HF q20 q0 fz1 H2 HX HFR HR d20
                generalize w1.setCell ⟨p, 20, none⟩ (.slice a' (m.proposed.length + 1) cap') = w3 at *
                obtain ⟨S3, hm3, hS3, hnot⟩ : ∃ S3, RMem w3 p S3 B m.noted out ∧ Grow S w S3 ∧ ¬ S3 w.heap.size := ⟨_, hm3, hS3, hnot⟩
                have HOK : m.next.Ok := ⟨by show -9223372036854775808 ≤ m.view; omega, by show m.view ≤ 9223372036854775807; omega, hh, by show (m.queue.headD ⟨#[]⟩).size ≤ 140737488351232; exact headD_le HQ.out⟩
                rw [nextCells_is] at hx3
                have HY := ends_yes HMY.out
                obtain ⟨⟨bv, ⟨jv, jb, j0, j1, j2, j3⟩, bc⟩, hbe⟩ : ∃ b, b = m.next := ⟨_, rfl⟩
                rw [← hbe] at hx3 HOK HY
                have HNU := rnum ⟨bv, ⟨jv, jb, j0, j1, j2, j3⟩, bc⟩ HOK
                have hnl := num_lt ⟨bv, ⟨jv, jb, j0, j1, j2, j3⟩, bc⟩
                obtain ⟨nb, hnb⟩ : ∃ x, x = Blk.num ⟨bv, ⟨jv, jb, j0, j1, j2, j3⟩, bc⟩ := ⟨_, rfl⟩
                rw [← hnb] at HY HNU hnl
                clear hnb
                have HYY : Hid (m.ends = (m.noted.knows ⟨bv, ⟨jv, jb, j0, j1, j2, j3⟩, bc⟩, [⟨-1, propMsg m.view ⟨bv, ⟨jv, jb, j0, j1, j2, j3⟩, bc⟩ m.id (sealOf m.id 1 m.view nb)⟩])) := HY
                have HOK : Hid (Blk.Ok ⟨bv, ⟨jv, jb, j0, j1, j2, j3⟩, bc⟩) := HOK
                have hx3 : w3.heap[w.heap.size]? = some (.cells #[.int .i64 bv, .int .i64 jv, .int .u64 jb, .int .u64 j0, .int .u64 j1, .int .u64 j2, .int .u64 j3, .string bc] 41 (0, 0)) := hx3
                have HX3 : Hid (w3.heap[w.heap.size]? = some (.cells #[.int .i64 bv, .int .i64 jv, .int .u64 jb, .int .u64 j0, .int .u64 j1, .int .u64 j2, .int .u64 j3, .string bc] 41 (0, 0))) := hx3
                clear hbe HY
                have HM3 : Hid (RMem w3 p S3 B m.noted out) := hm3
                have HS3 : Hid (Grow S w S3 ∧ ¬ S3 w.heap.size ∧ Fr S w w3) := ⟨hS3, hnot, hf3⟩
                have hl3 : (rowVar 41 ⟨w.heap.size, 0, none⟩).run Tryz.prog w3 = .ok (.agg #[.int .i64 bv, .int .i64 jv, .int .u64 jb, .int .u64 j0, .int .u64 j1, .int .u64 j2, .int .u64 j3, .string bc]) w3 := blk_whole w3 _ _ hx3 rfl
                clear hx3 hf3 hm3 hS3 hnot
                rw [hl3]
                go_simp
                go_wp2_with (first
                  | (go_at_call 64; refine (rknows _ p S3 m.noted B out HM3.out ⟨bv, ⟨jv, jb, j0, j1, j2, j3⟩, bc⟩ HOK.out hn).mono ?_; rintro e w4 ⟨rfl, S4, hm4, hg4, hf4⟩; have hx4 := (hf4.block _ (lt_at HX3.out) HS3.out.2.1).trans HX3.out; have hl4 : (rowVar 41 ⟨w.heap.size, 0, none⟩).run Tryz.prog w4 = .ok (.agg #[.int .i64 bv, .int .i64 jv, .int .u64 jb, .int .u64 j0, .int .u64 j1, .int .u64 j2, .int .u64 j3, .string bc]) w4 := blk_whole w4 _ _ hx4 rfl; have HX4 : Hid (w4.heap[w.heap.size]? = some (.cells #[.int .i64 bv, .int .i64 jv, .int .u64 jb, .int .u64 j0, .int .u64 j1, .int .u64 j2, .int .u64 j3, .string bc] 41 (0, 0))) := hx4; clear hx4; have q0 := hm4.id; rw [knows_id] at q0; change _ = some (Value.int IntKind.i64 m.id) at q0)
                  | (go_at_call 27; refine (HNU _).mono ?_; rintro e w5 ⟨rfl, hb5⟩; have q5 := (hm4.below hb5).id; rw [knows_id] at q5; change _ = some (Value.int IntKind.i64 m.id) at q5)
                  | (go_at_call 25; refine (rseal m.id 1 m.view nb (by omega) (by omega) (by omega) (by omega) (by omega) (by omega) hnl _).mono ?_; rintro e w6 ⟨rfl, hb6⟩; have hl6 : (rowVar 41 ⟨w.heap.size, 0, none⟩).run Tryz.prog w6 = .ok (.agg #[.int .i64 bv, .int .i64 jv, .int .u64 jb, .int .u64 j0, .int .u64 j1, .int .u64 j2, .int .u64 j3, .string bc]) w6 := blk_whole w6 _ _ (box_below (box_below HX4.out hb5) hb6) rfl)
                  | (go_at_call 41; refine (rsendsP _ p S4 (m.noted.knows ⟨bv, ⟨jv, jb, j0, j1, j2, j3⟩, bc⟩) B (by have := HS3.out.2.2.size; have := hf4.size; have := hb5.size; have := hb6.size; omega) out ((hm4.below hb5).below hb6) m.view bv jv jb j0 j1 j2 j3 bc (sealOf m.id 1 m.view nb) (by omega)).mono ?_; rintro e w7 ⟨rfl, S7, hm7, hg7, hf7⟩; rw [knows_id] at hm7; change RMem w7 p S7 B _ (out ++ [⟨-1, propMsg m.view ⟨bv, ⟨jv, jb, j0, j1, j2, j3⟩, bc⟩ m.id (sealOf m.id 1 m.view nb)⟩]) at hm7; obtain ⟨vb7, vv7, ve7, vp7, vl7, vq7, vo7, h7, hB7⟩ := hm7; have q23 : w7.cell? ⟨p, 23, none⟩ = some vo7 := cell_at h7.box 23; have fz7 := free_at h7.box; have H7 : Hid _ := h7; have HB7 : Hid (∀ k, vo7.ownBlock = some k → B ≤ k) := hB7; clear h7 hB7))
                go_ret
                refine ⟨_, rfl, ?_⟩
                rw [HYY.out]
                have g4 : Grow S w S4 := HS3.out.1.trans HS3.out.2.2.size hg4
                have f4 : Fr S w w4 := HS3.out.2.2.grow HS3.out.1 hf4
                have f6 : Fr S w w6 := (f4.trans (Fr.of_below (S := S) hb5) (fun _ h => .inl h)).trans (Fr.of_below (S := S) hb6) (fun _ h => .inl h)
                exact (rgive H7.out HB7.out).since (g4.trans f6.size hg7) (f6.grow g4 hf7)
end Go.Proofs.YtkehpnobidendaaGreatDoor

namespace Go.Proofs.YtkehpnobidendaaGreatDoor
open Go.RowKit

theorem new_cells2 {w : World} {o : Obj} (cs : List Value) (t : TypeId) (C : Array Value) (h : C = cs.toArray) : ∀ (j : Nat) u, cs[j]? = some u → ((w.alloc o).alloc (.cells C t)).cell? ((⟨w.heap.size + 1, 0, none⟩ : Addr).add j) = some u := by
  have e : (w.alloc o).heap.size = w.heap.size + 1 := by simp
  rw [← e]
  exact new_cells _ cs t h
/-- Does New take its arguments? -/
def newOk (a b : Int) : Bool := decide (0 ≤ a ∧ a ≤ 3 ∧ 1 ≤ b ∧ b ≤ 100)
theorem nils {i : Nat} {v : Value} (h : [Value.slice none 0 0, .slice none 0 0, .slice none 0 0, .slice none 0 0, .slice none 0 0, .slice none 0 0, .slice none 0 0][i]? = some v) : v = .slice none 0 0 := by
  have := List.mem_of_getElem? h
  simpa using this
/-- A new record, all of whose slices are nil. -/
theorem rfresh (w : World) (m : Mem) (h : m.blocks = [] ∧ m.votes = [] ∧ m.enters = [] ∧ m.proposed = [] ∧ m.log = [] ∧ m.queue = []) :
    Bun (w.alloc (.cells (rcells m (.slice none 0 0) (.slice none 0 0) (.slice none 0 0) (.slice none 0 0) (.slice none 0 0) (.slice none 0 0) (.slice none 0 0)) 59)) w.heap.size 59 (fun k => k = w.heap.size) (rcells m (.slice none 0 0) (.slice none 0 0) (.slice none 0 0) (.slice none 0 0) (.slice none 0 0) (.slice none 0 0) (.slice none 0 0))
      [.slice none 0 0, .slice none 0 0, .slice none 0 0, .slice none 0 0, .slice none 0 0, .slice none 0 0, .slice none 0 0] rE (rX m []) := by
  obtain ⟨h1, h2, h3, h4, h5, h6⟩ := h
  refine ⟨rfl, heap_alloc_new w _, fun i v e x hv he hx => ?_, fun i v hv hk => ?_, fun i j v u k hv _ _ hk => ?_, by simp [rE, rX], fun k hk => by subst hk; simp⟩
  · have := nils hv
    subst this
    have hx0 : x = (0, []) := by
      have := List.mem_of_getElem? hx
      simpa [rX, h1, h2, h3, h4, h5, h6] using this
    subst hx0
    exact Row.nil _ _ _ _
  · have := nils hv; subst this; cases hk
  · have := nils hv; subst this; cases hk

set_option maxRecDepth 100000 in
set_option maxHeartbeats 1000000 in
theorem rnew_no (a b : Int) (h : newOk a b = false) (w : World) :
    Calls Tryz.prog 32 #[.int .i64 a, .int .i64 b] w fun e w' => e = .returned (.tuple #[.pointer none, .int .i64 1]) ∧ Below w.heap.size w w' := by
  have h' : a < 0 ∨ 3 < a ∨ b < 1 ∨ 100 < b := by simp [newOk] at h; omega
  clear h
  rcases h' with h | h | h | h
  all_goals (
    go_enter Tryz.func32, Tryz.ntmps32
    go_wp2
    all_goals (go_ret2; exact ⟨rfl, Below.refl _ _⟩))

set_option maxRecDepth 100000 in
set_option maxHeartbeats 1000000 in
theorem rnew_ok (a b : Int) (h : newOk a b = true) (w : World) :
    Calls Tryz.prog 32 #[.int .i64 a, .int .i64 b] w fun e w' => e = .returned (.tuple #[.pointer (some ⟨w.heap.size, 0, none⟩), .int .i64 0]) ∧ (∃ S, RMem w' w.heap.size S w'.heap.size (Mem.new a b) [] ∧ ∀ k, S k → w.heap.size ≤ k) ∧ Below w.heap.size w w' := by
  simp only [newOk, decide_eq_true_eq] at h
  obtain ⟨h1, h2, h3, h4⟩ := h
  go_enter Tryz.func32, Tryz.ntmps32
  have H : Hid (Bun (w.alloc (.cells (rcells { Mem.new a b with blocks := [] } (.slice none 0 0) (.slice none 0 0) (.slice none 0 0) (.slice none 0 0) (.slice none 0 0) (.slice none 0 0) (.slice none 0 0)) 59)) w.heap.size 59 (fun k => k = w.heap.size) (rcells { Mem.new a b with blocks := [] } (.slice none 0 0) (.slice none 0 0) (.slice none 0 0) (.slice none 0 0) (.slice none 0 0) (.slice none 0 0) (.slice none 0 0))
      [.slice none 0 0, .slice none 0 0, .slice none 0 0, .slice none 0 0, .slice none 0 0, .slice none 0 0, .slice none 0 0] rE (rX { Mem.new a b with blocks := [] } [])) := rfresh w { Mem.new a b with blocks := [] } ⟨rfl, rfl, rfl, rfl, rfl, rfl⟩
  go_wp2_with (at_builtin; refine wpList_append_row rfl (.tmp 29) (.tmp 31) 55 rfl (fun k => k = w.heap.size) 105 _ 9 80 Tryz.underlying55 info_known rfl (.slice none 0 0) 0 [] rfl (Row.nil _ _ _ _) ⟨w.heap.size + 1, 0, none⟩ 1 1 (kcells (0, Blk.zero)) rfl rfl (new_cells2 _ _ _ rfl) (by simp [kcells, Blk.cells, Value.oneCell']) (by omega) (by unfold maxLen; omega) (by omega) ?_; intro v' w1 hr' hf; obtain ⟨a', cap', rfl⟩ := hr'.isSlice; have hb1 := (H.out.alloc _).after 0 rfl hf; have q17 : w1.cell? ⟨w.heap.size, 17, none⟩ = some (.slice none 0 0) := cell_at hb1 17; have fz1 := free_at hb1; clear hb1; have HR' : Hid _ := hr'; have HF : Hid (Fr _ _ w1) := hf; clear hr' hf)
  go_ret2
  refine ⟨rfl, ⟨_, ⟨.slice a' 1 cap', .slice none 0 0, .slice none 0 0, .slice none 0 0, .slice none 0 0, .slice none 0 0, .slice none 0 0, (H.out.alloc _).put 0 rfl rfl _ (1, kcells (0, Blk.zero)) HR'.out HF.out 17 rfl rfl rfl, fun k hk => by cases hk⟩, fun k hk => ?_⟩, ?_⟩
  · rcases hk with hk | hk
    · omega
    · rcases (HR'.out.ownS hk).1 with h | h
      · cases h
      · simp at h; omega
  · have := (H.out.alloc _).frPut (S := fun k => k = w.heap.size) (w := w) ((Fr.alloc _ _ _).trans (Fr.alloc _ _ _) (fun _ h => .inl h)) 0 rfl HF.out 17 (.slice a' 1 cap')
    exact ⟨this.os, this.tape, this.output, this.size, fun k hk => this.block k hk (by omega)⟩
end Go.Proofs.YtkehpnobidendaaGreatDoor
