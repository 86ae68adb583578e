/- parleykeep's digits and command. parleykeep's Agree: the plain side: all that holds behind every step (GInv), and that it keeps: a tick, a letter that comes, a command, the liar's words. No program in it. parleykeep's Flow, plain: what a member is while four members hear one another in order. No program in it. parleykeep's Flow, plain: what a member makes of a proposal, a vote, a tick. No program in it. parleykeep's Flow, plain: the cluster, letter by letter. No program in it. parleykeep's Recovers: the plain side. No program in it. -/
import Derived.Test.YtkehpnobidendaaDoorM47
import Derived.Test.YtkehpnobidendaaDoorM45
namespace Go.Proofs.YtkehpnobidendaaDoor
open Go.RowKit

set_option maxRecDepth 100000 in
set_option maxHeartbeats 400000 in
theorem kdigits (u : Nat) (hu : u ≤ 9223372036854775807) (w : World) :
    Calls Tryd.prog 37 #[.int .i64 u] w fun e w' => e = .returned (.string ⟨(Lib.decDigits u).toArray⟩) ∧ Below w.heap.size w w' := by
  have h20 := digits_len u (by omega)
  have H20 : Hid ((Lib.decDigits u).length ≤ 20) := h20
  clear h20
  go_enter Tryd.func37, Tryd.ntmps37
  go_wp2
  go_loopw [0, 3] (fun n s wr => ∃ (m : Nat) (t : List UInt8), m ≤ u ∧ n = .int .i64 m ∧ s = .string ⟨t.toArray⟩ ∧ Hid (dd m t = Lib.decDigits u) ∧ Below w.heap.size w wr) (fun n s _ => 2 * (intOf n).toNat + empOf s)
  case atStart => exact ⟨u, [], Nat.le_refl _, rfl, rfl, by show dd u [] = _; rw [dd_go _ _ (by simp)]; simp, Below.refl _ _⟩
  case round =>
    obtain ⟨m, t, hm, rfl, rfl, hd, hb⟩ := hrel
    have hc := conv_one wr m
    have hlen : t.length ≤ 20 := by have := dd_len m t; rw [hd.out] at this; exact Nat.le_trans this H20.out
    have hm0' : (0 : Int) ≤ (m : Int) := by omega
    have hm1' : (m : Int) ≤ 9223372036854775807 := by omega
    have ht1 : (m : Int).tmod 10 = (m : Int) % 10 := Int.tmod_eq_emod_of_nonneg hm0'
    have ht2 : (m : Int).tdiv 10 = ((m / 10 : Nat) : Int) := by rw [Int.tdiv_eq_ediv_of_nonneg hm0']; omega
    by_cases hlt : 0 < m
    · have HS : Hid (dd (m / 10) (dgt m :: t) = Lib.decDigits u) := by
        show dd (m / 10) (dgt m :: t) = Lib.decDigits u
        rw [dd_step, ← dd_go m t (by omega)]; exact hd.out
      have hmI : (0 : Int) < (m : Int) := by omega
      go_wp2
      go_roundw
      case rel => exact ⟨m / 10, dgt m :: t, by omega, by first | rfl | go_num, str_cons _ _, HS, hb.alloc hb.size _⟩
      case measure => rw [str_cons, empOf_cons]; simp [intOf]; omega
    · have hm0 : m = 0 := by omega
      subst hm0
      cases t with
      | nil =>
        have HS : Hid (dd 0 [dgt 0] = Lib.decDigits u) := by
          show dd 0 [dgt 0] = Lib.decDigits u
          have := dd_step 0 []
          rw [this, ← dd_go 0 [] (by simp)]; exact hd.out
        have hc0 : (convert 104 9 (.slice (some ⟨wr.heap.size, 0, none⟩) 1 1)).run Tryd.prog (wr.alloc (.cells #[.int .u8 48] 5)) = .ok (.string ⟨#[dgt 0]⟩) (wr.alloc (.cells #[.int .u8 48] 5)) := conv_one wr 0
        clear hc
        go_wp2
        go_roundw
        case rel => exact ⟨0, [dgt 0], by omega, by go_num, str_cons _ _, HS, hb.alloc hb.size _⟩
        case measure => rw [str_cons, empOf_cons, show empOf (.string ⟨([] : List UInt8).toArray⟩) = 1 from rfl]; simp [intOf]
      | cons c t =>
        have HE : Hid (c :: t = Lib.decDigits u) := by
          show c :: t = Lib.decDigits u
          rw [← hd.out, dd_end _ (by simp)]
        go_wp2
        go_ret
        exact ⟨by rw [← HE.out]; rfl, hb⟩
/-- The text of a command that was never given. -/
def cmdText (n : Nat) : ByteArray := ⟨(99 :: Lib.decDigits n).toArray⟩
theorem KMem.count {w : World} {p : Nat} {S : Nat → Prop} {ps : List (Option Nat)} {K : Clu} (h : KMem w p S ps K) (c : Int) : KMem (w.setCell ⟨p, 21, none⟩ (.int .i64 c)) p S ps { K with count := c } := h.set _ 21 _ (fun _ _ _ _ _ _ _ _ _ => rfl) rfl
set_option maxRecDepth 100000 in
set_option maxHeartbeats 1000000 in
theorem kcommand (w : World) (p : Nat) (S : Nat → Prop) (ps : List (Option Nat)) (K : Clu) (h : KMem w p S ps K) (n : Nat) (hc : K.count = (n : Int)) (hn : n ≤ 9000000000000000000) :
    Calls Tryd.prog 20 #[.pointer (some ⟨p, 0, none⟩)] w fun e w' => e = .returned (.string (cmdText (n + 1))) ∧ KMem w' p S ps { K with count := ((n + 1 : Nat) : Int) } ∧ Fr S w w' := by
  have HM : Hid (KMem w p S ps K) := h
  have q1 : w.cell? ⟨p, 21, none⟩ = some (.int .i64 (n : Int)) := by
    obtain ⟨vm, vl, vc, vv, l0, l1, l2, l3, vb, g1⟩ := h.ex
    rw [← hc]
    exact cell_at g1.box 21
  have fz := h.fz 21
  have hn0 : (0 : Int) ≤ (n : Int) := by omega
  have hn1 : (n : Int) ≤ 9000000000000000000 := by omega
  have hl : (Lib.decDigits (n + 1)).length ≤ 20 := digits_len (n + 1) (by omega)
  have HD : Hid (∀ W, Calls Tryd.prog 37 #[.int .i64 ((n : Int) + 1)] W fun e w' => e = .returned (.string ⟨(Lib.decDigits (n + 1)).toArray⟩) ∧ Below W.heap.size W w') := fun W => kdigits (n + 1) (by omega) W
  have HM1 : Hid (KMem (w.setCell ⟨p, 21, none⟩ (.int .i64 ((n : Int) + 1))) p S ps { K with count := ((n + 1 : Nat) : Int) }) := h.count ((n + 1 : Nat) : Int)
  have HF1 : Hid (Fr S w (w.setCell ⟨p, 21, none⟩ (.int .i64 ((n : Int) + 1)))) := Fr.setCell w h.sp _
  clear h hc
  go_enter Tryd.func20, Tryd.ntmps20
  go_upto_region 2 with fail
  obtain ⟨W, hW⟩ : ∃ W, W = w.setCell ⟨p, 21, none⟩ (.int .i64 ((n : Int) + 1)) := ⟨_, rfl⟩
  rw [← hW] at HM1 HF1 ⊢
  have q2 : W.cell? ⟨p, 21, none⟩ = some (.int .i64 ((n : Int) + 1)) := by
    obtain ⟨vm, vl, vc, vv, l0, l1, l2, l3, vb, g1⟩ := HM1.out.ex
    exact cell_at g1.box 21
  clear hW q1 fz
  go_wp2_with (go_at_call 37; refine (HD.out _).mono ?_; rintro e w3 ⟨rfl, hb3⟩)
  go_ret
  exact ⟨rfl, HM1.out.below hb3, HF1.out.trans (Fr.of_below hb3) (fun _ h => .inl h)⟩
end Go.Proofs.YtkehpnobidendaaDoor

namespace Go.Proofs.YtkehpnobidendaaDoor
open Go.RowKit

def wtO : Option Mem → Nat
  | none => 0
  | some m => m.wt
def Clu.sumW (K : Clu) : Nat := wtO (K.memAt 0) + wtO (K.memAt 1) + wtO (K.memAt 2) + wtO (K.memAt 3)
structure GMem (m : Mem) (t : Nat) : Prop where
  b : MBnd m
  iv : Inv m
  i2 : Inv2 m
  kn : Kn m
  w : m.waited ≤ t
structure GInv (K : Clu) (t : Nat) : Prop where
  a : AInv K
  ok : K.Ok
  lq : LQ K
  ll : K.letters.length ≤ 3000 + K.sumW
  lt : ∀ l ∈ K.letters, l.Ok
  mb : ∀ k m, k < 4 → K.memAt k = some m → GMem m t
  c0 : 0 ≤ K.count
  c1 : K.count ≤ t
  mn : ∀ k : Nat, k < 4 → (k : Int) ≠ K.liar → ∃ m, K.memAt k = some m
  cn : 1 ≤ K.certs.length
def views : List Int := (List.range 1000).map fun (i : Nat) => (i : Int) + 1
theorem mem_views {v : Int} (h : 1 ≤ v ∧ v ≤ 1000) : v ∈ views := by
  unfold views
  rw [List.mem_map]
  exact ⟨(v - 1).toNat, by simp; omega, by omega⟩
theorem views_len : views.length = 1000 := by simp [views]
theorem nodup_filter {l : List Int} (h : l.Nodup) (v : Int) : (l.filter fun t => t == v).length ≤ 4 := by
  induction l with
  | nil => simp
  | cons a r ih =>
    obtain ⟨h1, h2⟩ := List.nodup_cons.1 h
    simp only [List.filter_cons]
    split
    · rename_i hv
      have e : a = v := by simpa using hv
      have : (r.filter fun t => t == v) = [] := by
        rw [List.filter_eq_nil_iff]
        intro x hx hxv
        have : x = v := by simpa using hxv
        rw [this, ← e] at hx
        exact h1 hx
      rw [this]; simp
    · exact ih h2
theorem GMem.prop {m : Mem} {t : Nat} (h : GMem m t) : m.proposed.length ≤ 4000 := by
  have := len_keys (fun v : Int => v) views m.proposed (fun v hv => mem_views (h.b.pv v hv)) (fun v => nodup_filter h.b.pn v)
  rw [views_len] at this
  exact this
theorem cnt_le4 (r : Rl) : r.cnt ≤ 4 := by
  unfold Rl.cnt
  have : ∀ b : Bool, b.toNat ≤ 1 := fun b => by cases b <;> decide
  have a := this r.a; have b := this r.b; have c := this r.c; have d := this r.d
  omega
theorem GMem.ents {m : Mem} {t : Nat} (h : GMem m t) : m.enters.length ≤ 4000 := by
  have := len_keys (fun x : Tk => x.view) views m.enters (fun x hx => mem_views (h.b.ev x hx)) (fun v => by
    have h1 := h.i2.eo.e v
    have h2 := cnt_le4 (rl (m.entered v))
    rw [h1] at h2
    exact h2)
  rw [views_len] at this
  exact this
theorem GMem.vots {m : Mem} {t : Nat} (h : GMem m t) : m.votes.length ≤ 4 * m.blocks.length := by
  have := len_keys (fun x : Tk => (x.n : Int)) (m.blocks.map fun y => (y.1 : Int)) m.votes (fun x hx => by
    have h1 := mem_num (h.i2.vs x hx).1
    obtain ⟨y, hy, he⟩ := List.mem_map.1 h1
    exact List.mem_map.2 ⟨y, hy, by rw [he]⟩) (fun v => by
    by_cases hv : 0 ≤ v
    · obtain ⟨n, rfl⟩ : ∃ n : Nat, v = (n : Int) := ⟨v.toNat, by omega⟩
      have h1 := h.i2.vo n
      have h2 := cnt_le4 (rl (m.votesFor n))
      rw [h1] at h2
      have e : (m.votes.filter fun x => (x.n : Int) == (n : Int)) = m.votesFor n := by
        unfold Mem.votesFor
        congr 1
        funext x
        by_cases hx : x.n = n
        · rw [hx]; simp
        · have h5 : ((x.n : Int) == (n : Int)) = false := beq_eq_false_iff_ne.2 (by omega)
          have h6 : (x.n == n) = false := beq_eq_false_iff_ne.2 hx
          rw [h5, h6]
      rw [e]; exact h2
    · have e : (m.votes.filter fun x => (x.n : Int) == v) = [] := by
        rw [List.filter_eq_nil_iff]
        intro x _ hx
        have : (x.n : Int) = v := by simpa using hx
        omega
      rw [e]; simp)
  simpa using this
theorem GInv.wt {K : Clu} {t : Nat} (h : GInv K t) {k : Nat} (hk : k < 4) : wtO (K.memAt k) ≤ 6000 := by
  cases hm : K.memAt k with
  | none => simp [wtO]
  | some m =>
    have g := h.mb k m hk hm
    have h1 := g.prop
    have h2 := g.iv.v0; have h3 := g.iv.v1; have h4 := g.iv.t0; have h5 := g.iv.t1
    show m.view.toNat + m.voted.toNat + m.proposed.length ≤ 6000
    omega
theorem GInv.letters {K : Clu} {t : Nat} (h : GInv K t) : K.letters.length ≤ 27000 := by
  have h0 := h.wt (k := 0) (by omega); have h1 := h.wt (k := 1) (by omega); have h2 := h.wt (k := 2) (by omega); have h3 := h.wt (k := 3) (by omega)
  have := h.ll
  unfold Clu.sumW at this
  omega
theorem firstOf_mem {n : Nat} : ∀ {l : List Blk} {o : Blk}, firstOf n l = some o → n ∈ l.map Blk.num
  | [], _, h => by cases h
  | a :: r, o, h => by
    unfold firstOf at h
    split at h
    · rename_i he; simp [he]
    · exact List.mem_cons_of_mem _ (firstOf_mem h)
theorem GInv.kok {K : Clu} {t : Nat} (h : GInv K t) (ht : t ≤ 20000000000000) : KOk K 200000 := by
  have hl := h.letters
  have hq := h.lq
  have hbl : ∀ k m, k < 4 → K.memAt k = some m → m.blocks.length ≤ 27002 := fun k m hk hm => by
    have g := h.mb k m hk hm
    have hM := (h.a.ms k m hk hm).2.2.1
    have h1 := len_of_sub (l := m.blocks.map (·.1)) (r := 0 :: K.blocks.map Blk.num) g.b.bn (fun n hn => by
      by_cases h0 : n = 0
      · simp [h0]
      · refine List.mem_cons_of_mem _ ?_
        cases hf : find n m.blocks with
        | none => exact absurd hn (find_none (by rw [hf]; rfl))
        | some b =>
          obtain ⟨o, ho, _⟩ := (hM.at1 n b hf h0).ex
          exact firstOf_mem ho)
    have h2 := hq.bl
    simp only [List.length_map, List.length_cons] at h1
    omega
  refine ⟨h.ok, hq.mono (by omega), h.lt, h.a.ml, fun m hm => ?_, fun k => ?_⟩
  · obtain ⟨k, hk, he⟩ := List.getElem_of_mem hm
    have hk4 : k < 4 := by rw [← h.a.ml]; exact hk
    have hat : K.memAt k = some m := by
      unfold Clu.memAt
      rw [List.getD_eq_getElem?_getD, List.getElem?_eq_getElem hk, he]; rfl
    have g := h.mb k m hk4 hat
    have h1 := hbl k m hk4 hat
    have h2 := g.prop; have h3 := g.ents; have h4 := g.vots; have h5 := g.w
    exact ⟨g.iv, g.i2, by omega, by omega, by omega, by omega, g.kn⟩
  · have key : ∀ k, k < 4 → (K.was k).log.length ≤ 200000 := fun k hk => by
      cases hm : K.memAt k with
      | none => rw [h.a.wz k hk hm]; simp
      | some m =>
        rcases (h.a.ms k m hk hm).2.2.2.2.lg with e | e
        · rw [e]; simp
        · rw [e]
          have h1 := log_len (h.mb k m hk hm).iv
          have h2 := hbl k m hk hm
          show (m.log.map _).length ≤ _
          rw [List.length_map]; omega
    by_cases hk : k < 4
    · exact key k hk
    · have e : K.was k = K.was 3 := by unfold Clu.was; rw [if_neg (by omega), if_neg (by omega), if_neg (by omega)]; rfl
      rw [e]; exact key 3 (by omega)
theorem GInv.msafe {K : Clu} {t : Nat} (h : GInv K t) : ∀ k m, k < 4 → K.memAt k = some m → MSafe m := fun k m hk hm => ⟨(h.mb k m hk hm).iv, (h.mb k m hk hm).i2.vo, (h.mb k m hk hm).i2.up⟩
theorem GInv.mono {K : Clu} {t u : Nat} (h : GInv K t) (hu : t ≤ u) : GInv K u := ⟨h.a, h.ok, h.lq, h.ll, h.lt, fun k m hk hm => ⟨(h.mb k m hk hm).b, (h.mb k m hk hm).iv, (h.mb k m hk hm).i2, (h.mb k m hk hm).kn, by have := (h.mb k m hk hm).w; omega⟩, h.c0, by have := h.c1; omega, h.mn, h.cn⟩
theorem GInv.agree {K : Clu} {t : Nat} (h : GInv K t) : K.agree = true := agree_yes (fun i k hi hk => ainv_agree h.a h.msafe hi (by omega))
theorem send1_certs (K : Clu) (f : Int) (l : Ltr) : K.certs.length ≤ (K.send1 f l).1.certs.length := by
  by_cases hb : l.msg.fro ≠ f ∨ l.to < -1 ∨ 3 < l.to
  · rw [send1_bad hb]; exact Nat.le_refl _
  by_cases hp : l.msg.kind = 1
  · rw [send1_prop hb hp]
    show K.certs.length ≤ ((K.addL l).meets l.msg.block).certs.length
    rw [(meets_same (K.addL l) l.msg.block).2.2.1]; exact Nat.le_refl _
  by_cases h2k : l.msg.kind = 2
  · cases ha : K.voted.any (fun t => t.fro == f && t.view == l.msg.view) with
    | true => rw [send1_twice hb h2k ha]; exact Nat.le_refl _
    | false =>
      rw [send1_vote hb h2k ha]
      dsimp only
      split
      · simp [Clu.addC, Clu.addV, Clu.addL]
      · exact Nat.le_refl _
  · rw [send1_other hb hp h2k]; exact Nat.le_refl _
theorem sends_certs (f : Int) : ∀ (ls : List Ltr) (K : Clu), K.certs.length ≤ (K.sends f ls).1.certs.length
  | [], _ => Nat.le_refl _
  | l :: r, K => by
    unfold Clu.sends
    split
    · exact Nat.le_trans (send1_certs K f l) (sends_certs f r _)
    · exact send1_certs K f l
/-- What a member's call leaves. -/
theorem after_ginv {K : Clu} {t u : Nat} (h : GInv K t) (hu : t ≤ u) {k : Nat} {m : Mem} (hk : k < 4) (hm : K.memAt k = some m) {m1 : Mem} {o1 : List Ltr} (h1 : MInv0 K m1) (r1 : Rises m m1) (hs : Sent1 K m m1 k o1) (hover : (K.after k m1.ends.1 (o1 ++ m1.ends.2)).1.over = false)
    (i1 : Inv m1) (b1 : MBnd m1) (hw : o1.length + m.wt ≤ m1.wt) (hi2 : Inv2 m1.ends.1) (hkn : Kn m1.ends.1) (hwt : m1.waited ≤ u) (ho : ∀ l ∈ o1 ++ m1.ends.2, l.Ok) :
    GInv (K.after k m1.ends.1 (o1 ++ m1.ends.2)).1 u ∧ (K.after k m1.ends.1 (o1 ++ m1.ends.2)).2 = true := by
  obtain ⟨hA, hT⟩ := after_ainv h.a hk hm (h.msafe k m hk hm) h1 r1 hs hover
  refine ⟨?_, hT⟩
  obtain ⟨e1, e2, e3, e4⟩ := mbnd_ends b1 i1
  obtain ⟨s1, s2, s3⟩ := sends_lq (k : Int) ⟨by omega, by omega⟩ (o1 ++ m1.ends.2) K h.ok h.lq ho
  have hsent := sends_sent (k : Int) ⟨by omega, by omega⟩ (o1 ++ m1.ends.2) K (K.letters.length + 1) h.ok h.lq ho
  have hwm : (o1 ++ m1.ends.2).length + m.wt ≤ m1.ends.1.wt := by
    unfold Mem.wt at hw ⊢
    rw [e2, e3, e4, List.length_append]
    omega
  have hcl := sends_certs (k : Int) (o1 ++ m1.ends.2) K
  rw [after_is] at hA ⊢
  dsimp only at hA ⊢
  generalize K.sends k (o1 ++ m1.ends.2) = R at hA s1 s2 s3 hsent hcl ⊢
  obtain ⟨K2, b2⟩ := R
  dsimp only at hA s1 s2 s3 hsent hcl ⊢
  generalize hm' : m1.ends.1 = m' at *
  have hml : K2.mem = K.mem := hsent.ck.m
  have hsame : SameC K2 ((K2.setMem k m').setWas k m'.sta) := by
    have a := setMem_same K2 k m'
    have b := setWas_same (K2.setMem k m') k m'.sta
    exact ⟨b.li.trans a.li, b.vt.trans a.vt, b.bl.trans a.bl, b.cr.trans a.cr, b.lt.trans a.lt⟩
  have hcount : ((K2.setMem k m').setWas k m'.sta).count = K.count := by
    have : ∀ (X : Clu) (s : Sta), (X.setWas k s).count = X.count := fun X s => by
      unfold Clu.setWas
      split
      · rfl
      · split
        · rfl
        · split <;> rfl
    rw [this]
    exact hsent.ck.c
  have hmem : ∀ i, ((K2.setMem k m').setWas k m'.sta).memAt i = if i = k then some m' else K.memAt i := fun i => by
    have e1 : ((K2.setMem k m').setWas k m'.sta).memAt i = (K2.setMem k m').memAt i := by unfold Clu.memAt; rw [(setWas_mem _ _ _).1]
    rw [e1, memAt_set' (by rw [hml, h.a.ml]; exact hk)]
    split
    · rfl
    · unfold Clu.memAt; rw [hml]
  have hsum : K.sumW + (o1 ++ m1.ends.2).length ≤ ((K2.setMem k m').setWas k m'.sta).sumW := by
    unfold Clu.sumW
    rw [hmem, hmem, hmem, hmem]
    have hwk : wtO (K.memAt k) = m.wt := by rw [hm]; rfl
    rcases (by omega : k = 0 ∨ k = 1 ∨ k = 2 ∨ k = 3) with rfl | rfl | rfl | rfl
    · rw [if_pos rfl, if_neg (by omega), if_neg (by omega), if_neg (by omega), hwk]; show _ ≤ m'.wt + _ + _ + _; omega
    · rw [if_neg (by omega), if_pos rfl, if_neg (by omega), if_neg (by omega), hwk]; show _ ≤ _ + m'.wt + _ + _; omega
    · rw [if_neg (by omega), if_neg (by omega), if_pos rfl, if_neg (by omega), hwk]; show _ ≤ _ + _ + m'.wt + _; omega
    · rw [if_neg (by omega), if_neg (by omega), if_neg (by omega), if_pos rfl, hwk]; show _ ≤ _ + _ + _ + m'.wt; omega
  refine ⟨hA, ?_, ?_, ?_, ?_, ?_, ?_, ?_, ?_, by rw [hsame.cr]; exact Nat.le_trans h.cn hcl⟩
  · exact ⟨by rw [hsame.bl]; exact s1.bl, by rw [hsame.vt]; exact s1.vt, by rw [hsame.li]; exact s1.l0, by rw [hsame.li]; exact s1.l1⟩
  · unfold LQ
    rw [hsame.lt]
    exact ⟨by rw [hsame.lt]; exact s2.lt, by rw [hsame.cr]; exact s2.ct, by rw [hsame.vt]; exact s2.vt, by rw [hsame.bl]; exact s2.bl⟩
  · rw [hsame.lt]
    have := h.ll
    omega
  · intro l hl
    rw [hsame.lt] at hl
    rcases hsent.lt l hl with h2 | h2
    · exact h.lt l h2
    · exact ho l h2
  · intro i mi hi hmi
    rw [hmem] at hmi
    by_cases hik : i = k
    · rw [if_pos hik] at hmi
      obtain rfl := Option.some.inj hmi
      refine ⟨e1, ?_, hi2, hkn, ?_⟩
      · rw [← hm']; exact inv_ends i1
      · have := (kends_lists m1).2.2.1
        rw [hm'] at this
        rw [this]; exact hwt
    · rw [if_neg hik] at hmi
      have g := h.mb i mi hi hmi
      exact ⟨g.b, g.iv, g.i2, g.kn, by have := g.w; omega⟩
  · rw [hcount]; exact h.c0
  · rw [hcount]; have := h.c1; omega
  · intro i hi hil
    rw [hmem]
    by_cases hik : i = k
    · rw [if_pos hik]; exact ⟨_, rfl⟩
    · rw [if_neg hik]
      exact h.mn i hi (by rw [hsame.li, hsent.ck.l] at hil; exact hil)
/-- A message comes to a member. -/
theorem comes_ginv {K : Clu} {t : Nat} (h : GInv K t) (ht : t ≤ 20000000000000) {k : Nat} (hk : k < 4) {x : Msg} (hx : x.Ok) (hB : MsgB K x) (hover : (K.comes k x).1.over = false) : GInv (K.comes k x).1 t ∧ (K.comes k x).2 = true := by
  unfold Clu.comes at hover ⊢
  cases hm : K.memAt k with
  | none => exact ⟨h, rfl⟩
  | some m =>
    rw [hm] at hover
    dsimp only at hover ⊢
    obtain ⟨hid, hkl, hM, hvo, hwas⟩ := h.a.ms k m hk hm
    have g := h.mb k m hk hm
    have hmo := (h.kok ht).at' hm
    have htk := took_takes h.a.c.lie h.a.c.vg hM g.iv g.i2.vo x hx hB
    have hmh := mok_handle hmo x hx
    obtain ⟨b1, b2⟩ := mbnd_takes g.b x
    refine after_ginv h (Nat.le_refl t) hk hm (m1 := (m.takes x).1) (o1 := (m.takes x).2.1) htk.inv htk.rise ?_ hover (inv_takes g.iv x hx) b1 ?_ hmh.i2 hmh.kn ?_ (handle_ok g.iv x hx)
    · rcases htk.out with h1 | ⟨h1, h2⟩
      · rw [h1]; exact .no
      · rw [h1]
        exact .vote _ rfl hid ⟨by show -1 ≤ (x.view + 1) % 4; omega, by show (x.view + 1) % 4 ≤ 3; omega⟩ h2
    · have r1 := htk.rise.vo; have r2 := htk.rise.vw
      have v0 := g.iv.t0; have v1 := g.iv.v0
      unfold Mem.wt
      rw [b2]
      rcases htk.out with h1 | ⟨h1, h2⟩
      · rw [h1]; simp only [List.length_nil]; omega
      · rw [h1]
        have h3 := h2.fresh; have h4 := h2.vo
        simp only [List.length_cons, List.length_nil]; omega
    · have := (takes_more m x).2
      have h5 := g.w
      rcases this with e | e
      · rw [e]; omega
      · rw [e]; omega
/-- A member ticks. -/
theorem ticks_ginv {K : Clu} {t : Nat} (h : GInv K t) (ht : t ≤ 20000000000000) {k : Nat} (hk : k < 4) (hover : (K.ticks k).1.over = false) : GInv (K.ticks k).1 (t + 1) ∧ (K.ticks k).2 = true := by
  unfold Clu.ticks at hover ⊢
  cases hm : K.memAt k with
  | none => exact ⟨h.mono (by omega), rfl⟩
  | some m =>
    rw [hm] at hover
    dsimp only at hover ⊢
    obtain ⟨hid, hkl, hM, hvo, hwas⟩ := h.a.ms k m hk hm
    have g := h.mb k m hk hm
    have hmo := (h.kok ht).at' hm
    have hmt := mok_tick hmo
    obtain ⟨b1, b2, b3, b4⟩ := mbnd_wait g.b
    refine after_ginv h (Nat.le_succ t) hk hm (m1 := m.wait.1) (o1 := m.wait.2) (minv_wait hM) rises_wait ?_ hover (inv_wait g.iv) b1 ?_ hmt.i2 hmt.kn ?_ (tick_ok g.iv)
    · unfold Mem.wait
      dsimp only
      split
      · exact .enter _ rfl hid ⟨by show -1 ≤ (m.view + 1) % 4; omega, by show (m.view + 1) % 4 ≤ 3; omega⟩ hM.hi
      · exact .no
    · have v1 := g.iv.v0
      unfold Mem.wt
      rw [b2, b3, b4]
      omega
    · have h5 := g.w
      have h6 := g.iv.w0
      unfold Mem.wait
      dsimp only
      split
      · show (0 : Int) ≤ _; omega
      · show m.waited + 1 ≤ _; omega
/-! What was over stays over; what was met stays met. -/
theorem meets_over {K : Clu} {b : Blk} (h : (K.meets b).over = false) : K.over = false := (meets_same K b).2.2.2.2.2 h
theorem send1_over {K : Clu} {f : Int} {l : Ltr} (h : (K.send1 f l).1.over = false) : K.over = false := by
  by_cases hb : l.msg.fro ≠ f ∨ l.to < -1 ∨ 3 < l.to
  · rw [send1_bad hb] at h; exact h
  by_cases hp : l.msg.kind = 1
  · rw [send1_prop hb hp] at h; exact meets_over (K := K.addL l) h
  by_cases h2k : l.msg.kind = 2
  · cases ha : K.voted.any (fun t => t.fro == f && t.view == l.msg.view) with
    | true => rw [send1_twice hb h2k ha] at h; exact h
    | false =>
      rw [send1_vote hb h2k ha] at h
      dsimp only at h
      split at h <;> exact h
  · rw [send1_other hb hp h2k] at h; exact h
theorem sends_over (f : Int) : ∀ (ls : List Ltr) {K : Clu}, (K.sends f ls).1.over = false → K.over = false
  | [], _, h => h
  | l :: r, K, h => by
    unfold Clu.sends at h
    split at h
    · exact send1_over (sends_over f r h)
    · exact send1_over h
theorem comes_over {K : Clu} {k : Nat} {x : Msg} (h : (K.comes k x).1.over = false) : K.over = false := by
  unfold Clu.comes at h
  cases hm : K.memAt k with
  | none => rw [hm] at h; exact h
  | some m =>
    rw [hm] at h
    dsimp only at h
    rw [after_is] at h
    dsimp only at h
    rw [(setWas_mem _ _ _).2] at h
    exact sends_over _ _ h
theorem send1_ext (K : Clu) (f : Int) (l : Ltr) : KExt K (K.send1 f l).1 := by
  by_cases hb : l.msg.fro ≠ f ∨ l.to < -1 ∨ 3 < l.to
  · rw [send1_bad hb]; exact KExt.refl K
  by_cases hp : l.msg.kind = 1
  · rw [send1_prop hb hp]
    exact KExt.trans (b := K.addL l) ⟨rfl, fun _ h => h, fun _ _ h => h⟩ (meets_ext _)
  by_cases h2k : l.msg.kind = 2
  · cases ha : K.voted.any (fun t => t.fro == f && t.view == l.msg.view) with
    | true => rw [send1_twice hb h2k ha]; exact ⟨rfl, fun _ h => h, fun _ _ h => h⟩
    | false =>
      rw [send1_vote hb h2k ha]
      dsimp only
      split
      · exact ⟨rfl, fun _ h => List.mem_append_left _ h, fun _ _ h => h⟩
      · exact ⟨rfl, fun _ h => List.mem_append_left _ h, fun _ _ h => h⟩
  · rw [send1_other hb hp h2k]; exact ⟨rfl, fun _ h => h, fun _ _ h => h⟩
theorem sends_ext (f : Int) : ∀ (ls : List Ltr) (K : Clu), KExt K (K.sends f ls).1
  | [], K => KExt.refl K
  | l :: r, K => by
    unfold Clu.sends
    split
    · exact (send1_ext K f l).trans (sends_ext f r _)
    · exact send1_ext K f l
theorem comes_ext (K : Clu) (k : Nat) (x : Msg) : KExt K (K.comes k x).1 := by
  unfold Clu.comes
  cases hm : K.memAt k with
  | none => exact KExt.refl K
  | some m =>
    dsimp only
    rw [after_is]
    have a := setMem_same (K.sends k (m.handle x).2.1).1 k (m.handle x).1
    have b := setWas_same ((K.sends k (m.handle x).2.1).1.setMem k (m.handle x).1) k (m.handle x).1.sta
    exact (sends_ext _ _ K).trans (a.ext.trans b.ext)
/-! The liar. -/
/-- A message comes to those of the members k, k + 1 .. whom the liar tells it. -/
def Clu.tells (K : Clu) (x : Msg) (go : Nat → Bool) : Nat → Nat → Bool → Clu × Bool
  | 0, _, ok => (K, ok)
  | f + 1, k, ok => if go k then (K.comes k x).1.tells x go f (k + 1) (ok && (K.comes k x).2) else K.tells x go f (k + 1) ok
theorem tells_over {x : Msg} {go : Nat → Bool} : ∀ (f k : Nat) (ok : Bool) {K : Clu}, (K.tells x go f k ok).1.over = false → K.over = false
  | 0, _, _, _, h => h
  | f + 1, k, ok, K, h => by
    unfold Clu.tells at h
    split at h
    · exact comes_over (tells_over f (k + 1) _ h)
    · exact tells_over f (k + 1) ok h
theorem tells_ginv {x : Msg} {go : Nat → Bool} (hx : x.Ok) : ∀ (f k : Nat) (ok : Bool) {K : Clu} {t : Nat}, f + k = 4 → GInv K t → t ≤ 20000000000000 → MsgB K x → (K.tells x go f k ok).1.over = false → GInv (K.tells x go f k ok).1 t ∧ (K.tells x go f k ok).2 = ok
  | 0, _, _, _, _, _, h, _, _, _ => ⟨h, rfl⟩
  | f + 1, k, ok, K, t, hfk, h, ht, hB, ho => by
    unfold Clu.tells at ho ⊢
    split
    · rename_i hg
      rw [if_pos hg] at ho
      have ho1 := tells_over f (k + 1) _ ho
      obtain ⟨h1, h2⟩ := comes_ginv h ht (by omega) hx hB ho1
      rw [h2, Bool.and_true] at ho ⊢
      exact tells_ginv hx f (k + 1) ok (by omega) h1 ht ((comes_ext K k x).msgB hB) ho
    · rename_i hg
      rw [if_neg hg] at ho
      exact tells_ginv hx f (k + 1) ok (by omega) h ht hB ho
theorem said_ginv {K K' : Clu} {t u : Nat} (h : GInv K t) (hu : t ≤ u) (hlt : K.letters.length < 3000) (l : Ltr) (hl : K'.letters = K.letters ++ [l]) (hlo : l.Ok) (hm : K'.mem = K.mem) (hw : ∀ i, K'.was i = K.was i) (hv : K'.voted = K.voted) (hc : K'.certs = K.certs) (hb : K'.blocks.length ≤ K.blocks.length + 1) (hbo : ∀ o ∈ K'.blocks, o.Ok) (hE : KExt K K') (hC : CInv K') (h0 : 0 ≤ K'.count) (h1 : K'.count ≤ u) : GInv K' u := by
  have hat : ∀ i, K'.memAt i = K.memAt i := fun i => by unfold Clu.memAt; rw [hm]
  have hs : K'.sumW = K.sumW := by unfold Clu.sumW; rw [hat, hat, hat, hat]
  refine ⟨⟨hC, by unfold PwK; rw [hv]; exact h.a.pw, by rw [hm]; exact h.a.ml, fun k m hk hkm => ?_, fun k hk hkm => ?_⟩, ⟨hbo, by rw [hv]; exact h.ok.vt, by rw [hE.li]; exact h.ok.l0, by rw [hE.li]; exact h.ok.l1⟩, ?_, ?_, fun x hx => ?_, fun k m hk hkm => ?_, h0, h1, fun k hk hkl => ?_, by rw [hc]; exact h.cn⟩
  · rw [hat] at hkm
    obtain ⟨a1, a2, a3, a4, a5⟩ := h.a.ms k m hk hkm
    refine ⟨a1, by rw [hE.li]; exact a2, hE.minv h.a.c.vg a3, fun x hx hf => ?_, by rw [hw]; exact a5⟩
    rw [hv] at hx
    have := a4 x hx hf
    have hg := h.a.c.vg x hx
    rw [hE.gu (.inr hg.mt), hE.gu (hg.bk.zm h.a.c.vg), hE.gv ((hg.bk.up h.a.c.vg).zm h.a.c.vg)]
    exact this
  · rw [hat] at hkm
    rw [hw]
    exact h.a.wz k hk hkm
  · have hq := h.lq
    unfold LQ
    rw [hl]
    have e : (K.letters ++ [l]).length = K.letters.length + 1 := by simp
    rw [e]
    exact ⟨by rw [hl, e]; omega, by rw [hc]; have := hq.ct; omega, by rw [hv]; have := hq.vt; omega, by have := hq.bl; omega⟩
  · rw [hl]; simp only [List.length_append, List.length_cons, List.length_nil]; omega
  · rw [hl] at hx
    rcases List.mem_append.1 hx with h2 | h2
    · exact h.lt x h2
    · obtain rfl := List.mem_singleton.1 h2
      exact hlo
  · rw [hat] at hkm
    have g := h.mb k m hk hkm
    exact ⟨g.b, g.iv, g.i2, g.kn, by have := g.w; omega⟩
  · rw [hat]
    rw [hE.li] at hkl
    exact h.mn k hk hkl
/-- A certificate that the liar has. -/
theorem GInv.crt {K : Clu} {t : Nat} (h : GInv K t) {c : Crt} (hc : BackC K c.view c.block) : 0 ≤ c.view ∧ c.view ≤ 1000 ∧ c.block < 18446744073709551616 := by
  rcases hc with ⟨h1, h2⟩ | ⟨h1, h2⟩
  · rw [h1, h2]; omega
  · obtain ⟨x, hx, e1, e2⟩ := BackC.vd (K := K) (.inr ⟨h1, h2⟩) h1
    have g := h.a.c.vg x hx
    have hk : x.fro.toNat < 4 := by have := g.f0; have := g.f3; omega
    have hkf : ((x.fro.toNat : Nat) : Int) = x.fro := by have := g.f0; omega
    obtain ⟨m, hm⟩ := h.mn x.fro.toNat hk (by rw [hkf]; exact g.fl)
    have h3 := ((h.a.ms _ m hk hm).2.2.2.1 x hx hkf.symm).1
    have h4 := (h.mb _ m hk hm).iv.t1
    have h5 := g.v1
    have h6 := h.ok.vt x hx
    rw [← e1, ← e2]
    exact ⟨by omega, by omega, h6.n1⟩
theorem GInv.crtAt {K : Clu} {t : Nat} (h : GInv K t) (i : Nat) : BackC K (K.certs.getD i Crt.zero).view (K.certs.getD i Crt.zero).block := by
  rw [List.getD_eq_getElem?_getD]
  cases hi : K.certs[i]? with
  | none => exact .inl ⟨rfl, rfl⟩
  | some c => exact h.a.c.crt c (List.mem_of_getElem? hi)
/-- It says something to all, or to some. -/
def Clu.says (K : Clu) (x : Msg) (go : Nat → Bool) : Clu × Bool := if K.over then (K, true) else ({ K with letters := K.letters ++ [⟨-1, x⟩] } : Clu).tells x go 4 0 true
/-- The next view from v on whose leader is f. -/
def upTo (v f : Int) : Int := v + (f - v) % 4
def Clu.lies (K : Clu) (kind a b : Int) (go : Nat → Bool) : Clu × Bool :=
  let c := K.certs.getD (K.certs.length - 1 - pickN b K.certs.length) Crt.zero
  if kind = 4 then
    let v := upTo (c.view + 1 + pickN a 4) K.liar
    let blk : Blk := ⟨v, c, cmdText (K.count.toNat + 1)⟩
    (({ K with count := K.count + 1 } : Clu).meets blk).says ⟨1, K.liar, v, blk, 0, Crt.zero, sealOf K.liar 1 v blk.num⟩ go
  else if kind = 5 then
    if K.letters.length = 0 then (K, true) else
    let l := K.letters.getD (K.letters.length - 1 - pickN a K.letters.length) ⟨0, Msg.zero⟩
    if l.msg.kind ≠ 1 then (K, true) else
    K.says ⟨2, K.liar, l.msg.view, Blk.zero, l.msg.block.num, Crt.zero, sealOf K.liar 2 l.msg.view l.msg.block.num⟩ go
  else K.says ⟨3, K.liar, c.view + 1 + pickN a 6, Blk.zero, 0, c, sealOf K.liar 3 (c.view + 1 + pickN a 6) 0⟩ go
theorem meets_letters (K : Clu) (b : Blk) (l : Ltr) : ({ K.meets b with letters := (K.meets b).letters ++ [l] } : Clu) = ({ K with letters := K.letters ++ [l] } : Clu).meets b := by
  unfold Clu.meets
  dsimp only
  split <;> rfl
theorem cmd_size (n : Nat) (hn : n < 100000000000000) : (cmdText n).size ≤ 16 := by
  have h1 : (Lib.decDigits n).length ≤ 15 := by
    by_cases h : n = 0
    · subst h; decide +kernel
    · rw [Lib.decDigits_length]
      have key : ∀ (f k : Nat), k < 10 ^ (f + 1) → Lib.nDigits k ≤ f + 1 := by
        intro f
        induction f with
        | zero => intro k hk; rw [Lib.nDigits]; split <;> omega
        | succ f ih =>
          intro k hk
          rw [Lib.nDigits]
          split
          · omega
          · have := ih (k / 10) (by rw [Nat.pow_succ] at hk; omega)
            omega
      exact key 14 n (by omega)
  show (99 :: Lib.decDigits n).toArray.size ≤ 16
  simp
  omega
theorem says_ginv {K : Clu} {u : Nat} (hu2 : u ≤ 20000000000000) {x : Msg} {go : Nat → Bool} (hx : x.Ok)
    (hK : K.over = false → GInv ({ K with letters := K.letters ++ [⟨-1, x⟩] } : Clu) u ∧ MsgB ({ K with letters := K.letters ++ [⟨-1, x⟩] } : Clu) x) (ho : (K.says x go).1.over = false) : GInv (K.says x go).1 u ∧ (K.says x go).2 = true := by
  unfold Clu.says at ho ⊢
  by_cases hov : K.over = true
  · rw [if_pos hov] at ho
    rw [show K.over = false from ho] at hov
    cases hov
  · rw [if_neg hov] at ho ⊢
    obtain ⟨h1, h2⟩ := hK (by simpa using hov)
    exact tells_ginv hx 4 0 true rfl h1 hu2 h2 ho
theorem crt_ok {c : Crt} (h : 0 ≤ c.view ∧ c.view ≤ 1000 ∧ c.block < 18446744073709551616) : c.Ok := ⟨by omega, by omega, h.2.2⟩
theorem upTo_le (v f : Int) : v ≤ upTo v f ∧ upTo v f ≤ v + 3 := by unfold upTo; omega
theorem lies_ginv {K : Clu} {t : Nat} (h : GInv K t) (ht : t + 1 ≤ 20000000000000) (hlt : K.letters.length < 3000) (kind a b : Int) (go : Nat → Bool) (ho : (K.lies kind a b go).1.over = false) : GInv (K.lies kind a b go).1 (t + 1) ∧ (K.lies kind a b go).2 = true := by
  have hB := h.crtAt (K.certs.length - 1 - pickN b K.certs.length)
  have hr := h.crt hB
  have p4 := pickN_lt a 4 (by decide)
  have p6 := pickN_lt a 6 (by decide)
  unfold Clu.lies at ho ⊢
  dsimp only at ho ⊢
  generalize K.certs.getD (K.certs.length - 1 - pickN b K.certs.length) Crt.zero = c at hB hr ho ⊢
  by_cases k4 : kind = 4
  · rw [if_pos k4] at ho ⊢
    have hv := upTo_le (c.view + 1 + pickN a 4) K.liar
    generalize upTo (c.view + 1 + pickN a 4) K.liar = v at hv ho ⊢
    have hbo : Blk.Ok ⟨v, c, cmdText (K.count.toNat + 1)⟩ := ⟨by show _ ≤ v; omega, by show v ≤ _; omega, crt_ok hr, Nat.le_trans (cmd_size _ (by have := h.c1; have := h.c0; omega)) (by decide)⟩
    generalize hbk : (⟨v, c, cmdText (K.count.toNat + 1)⟩ : Blk) = blk at hbo ho ⊢
    refine says_ginv ht ⟨hbo, by show (0 : Nat) < _; decide, crt_zero_ok⟩ (fun hov => ?_) ho
    have ek := meets_letters ({ K with count := K.count + 1 } : Clu) blk ⟨-1, ⟨1, K.liar, v, blk, 0, Crt.zero, sealOf K.liar 1 v blk.num⟩⟩
    have hsm := meets_same ({ ({ K with count := K.count + 1 } : Clu) with letters := K.letters ++ [⟨-1, ⟨1, K.liar, v, blk, 0, Crt.zero, sealOf K.liar 1 v blk.num⟩⟩] } : Clu) blk
    have hcK : CInv ({ K with count := K.count + 1 } : Clu) := (SameC.mk (K := K) (K' := { K with count := K.count + 1 }) rfl rfl rfl rfl rfl).cinv h.a.c
    have hov2 : (({ ({ K with count := K.count + 1 } : Clu) with letters := K.letters ++ [⟨-1, ⟨1, K.liar, v, blk, 0, Crt.zero, sealOf K.liar 1 v blk.num⟩⟩] } : Clu).meets blk).over = false := by
      rw [← ek]; exact hov
    have hbj : BackC ({ K with count := K.count + 1 } : Clu) blk.just.view blk.just.block := by
      rw [← hbk]
      exact (SameC.mk (K := K) (K' := { K with count := K.count + 1 }) rfl rfl rfl rfl rfl).ext.back hB
    obtain ⟨hC, hE⟩ := cinv_prop hcK ⟨-1, ⟨1, K.liar, v, blk, 0, Crt.zero, sealOf K.liar 1 v blk.num⟩⟩ rfl hbj hov2
    have hE2 : KExt K _ := KExt.trans (SameC.mk (K := K) (K' := { K with count := K.count + 1 }) rfl rfl rfl rfl rfl).ext hE
    have hmk := meets_keep ({ ({ K with count := K.count + 1 } : Clu) with letters := K.letters ++ [⟨-1, ⟨1, K.liar, v, blk, 0, Crt.zero, sealOf K.liar 1 v blk.num⟩⟩] } : Clu) blk
    have hcnt : (({ ({ K with count := K.count + 1 } : Clu) with letters := K.letters ++ [⟨-1, ⟨1, K.liar, v, blk, 0, Crt.zero, sealOf K.liar 1 v blk.num⟩⟩] } : Clu).meets blk).count = K.count + 1 := (meets_ck _ _).c
    have hbl : ∀ o ∈ (({ ({ K with count := K.count + 1 } : Clu) with letters := K.letters ++ [⟨-1, ⟨1, K.liar, v, blk, 0, Crt.zero, sealOf K.liar 1 v blk.num⟩⟩] } : Clu).meets blk).blocks, o.Ok := (kmeets_ok (K := ({ ({ K with count := K.count + 1 } : Clu) with letters := K.letters ++ [⟨-1, ⟨1, K.liar, v, blk, 0, Crt.zero, sealOf K.liar 1 v blk.num⟩⟩] } : Clu)) ⟨h.ok.bl, h.ok.vt, h.ok.l0, h.ok.l1⟩ blk hbo).bl
    rw [ek]
    refine ⟨said_ginv h (Nat.le_succ t) hlt ⟨-1, ⟨1, K.liar, v, blk, 0, Crt.zero, sealOf K.liar 1 v blk.num⟩⟩ hsm.2.1 ⟨⟨hbo, by show (0 : Nat) < _; decide, crt_zero_ok⟩, by show _ ≤ v; omega, by show v ≤ _; omega⟩ hsm.2.2.2.1 hsm.2.2.2.2.1 hsm.1 hsm.2.2.1 hmk.2.2.2.2.2 hbl hE2 hC (by rw [hcnt]; have := h.c0; omega) (by rw [hcnt]; have := h.c1; omega), ?_⟩
    exact ⟨fun _ => ⟨meets_at hov2, hE.back hbj⟩, (fun h2 => by cases h2), (fun h2 => by cases h2)⟩
  · rw [if_neg k4] at ho ⊢
    by_cases k5 : kind = 5
    · rw [if_pos k5] at ho ⊢
      by_cases hl0 : K.letters.length = 0
      · rw [if_pos hl0]; exact ⟨h.mono (Nat.le_succ t), rfl⟩
      · rw [if_neg hl0] at ho ⊢
        have hlv : ∀ l : Ltr, l = K.letters.getD (K.letters.length - 1 - pickN a K.letters.length) ⟨0, Msg.zero⟩ → -9223372036854775808 ≤ l.msg.view ∧ l.msg.view ≤ 9223372036854775807 := fun l hl => by
          rw [List.getD_eq_getElem?_getD] at hl
          cases hi : K.letters[K.letters.length - 1 - pickN a K.letters.length]? with
          | none => rw [hi] at hl; rw [hl]; exact ⟨by decide, by decide⟩
          | some x => rw [hi] at hl; have e : l = x := hl; rw [e]; exact (h.lt x (List.mem_of_getElem? hi)).2
        generalize hle : K.letters.getD (K.letters.length - 1 - pickN a K.letters.length) ⟨0, Msg.zero⟩ = l at ho hlv ⊢
        have hlv := hlv l rfl
        by_cases hk1 : l.msg.kind ≠ 1
        · rw [if_pos hk1]; exact ⟨h.mono (Nat.le_succ t), rfl⟩
        · rw [if_neg hk1] at ho ⊢
          have hxo : Msg.Ok ⟨2, K.liar, l.msg.view, Blk.zero, l.msg.block.num, Crt.zero, sealOf K.liar 2 l.msg.view l.msg.block.num⟩ := ⟨blk_zero_ok, num_lt _, crt_zero_ok⟩
          refine says_ginv ht hxo (fun hov => ?_) ho
          have hM : MsgB K ⟨2, K.liar, l.msg.view, Blk.zero, l.msg.block.num, Crt.zero, sealOf K.liar 2 l.msg.view l.msg.block.num⟩ := ⟨(fun h2 => by cases h2), fun _ h2 => absurd rfl h2, (fun h2 => by cases h2)⟩
          obtain ⟨hC, hE⟩ := cinv_enter h.a.c ⟨-1, ⟨2, K.liar, l.msg.view, Blk.zero, l.msg.block.num, Crt.zero, sealOf K.liar 2 l.msg.view l.msg.block.num⟩⟩ hM
          exact ⟨said_ginv h (Nat.le_succ t) hlt _ rfl ⟨hxo, hlv⟩ rfl (fun _ => rfl) rfl rfl (Nat.le_succ _) h.ok.bl hE hC h.c0 (by have := h.c1; show K.count ≤ _; omega), hE.msgB hM⟩
    · rw [if_neg k5] at ho ⊢
      have hxo : Msg.Ok ⟨3, K.liar, c.view + 1 + pickN a 6, Blk.zero, 0, c, sealOf K.liar 3 (c.view + 1 + pickN a 6) 0⟩ := ⟨blk_zero_ok, by show (0 : Nat) < _; decide, crt_ok hr⟩
      refine says_ginv ht hxo (fun hov => ?_) ho
      have hM : MsgB K ⟨3, K.liar, c.view + 1 + pickN a 6, Blk.zero, 0, c, sealOf K.liar 3 (c.view + 1 + pickN a 6) 0⟩ := ⟨(fun h2 => by cases h2), (fun h2 => by cases h2), fun _ => hB⟩
      obtain ⟨hC, hE⟩ := cinv_enter h.a.c ⟨-1, ⟨3, K.liar, c.view + 1 + pickN a 6, Blk.zero, 0, c, sealOf K.liar 3 (c.view + 1 + pickN a 6) 0⟩⟩ hM
      exact ⟨said_ginv h (Nat.le_succ t) hlt _ rfl ⟨hxo, by show _ ≤ c.view + 1 + pickN a 6; omega, by show c.view + 1 + pickN a 6 ≤ _; omega⟩ rfl (fun _ => rfl) rfl rfl (Nat.le_succ _) h.ok.bl hE hC h.c0 (by have := h.c1; show K.count ≤ _; omega), hE.msgB hM⟩
/-- A member is given a command. -/
def Clu.gives (K : Clu) (k : Nat) : Clu × Bool :=
  match K.memAt k with
  | none => (K, true)
  | some m => (({ K with count := K.count + 1 } : Clu).setMem k (m.submit (cmdText (K.count.toNat + 1))).1, (m.submit (cmdText (K.count.toNat + 1))).2 == 0 || (m.submit (cmdText (K.count.toNat + 1))).2 == 6)
theorem submit_same (m : Mem) (s : ByteArray) : (m.submit s).1.blocks = m.blocks ∧ (m.submit s).1.high = m.high ∧ (m.submit s).1.locked = m.locked ∧ (m.submit s).1.votes = m.votes ∧ (m.submit s).1.log = m.log ∧ (m.submit s).1.proposed = m.proposed ∧ (m.submit s).1.enters = m.enters ∧ (m.submit s).1.view = m.view ∧ (m.submit s).1.voted = m.voted ∧ (m.submit s).1.id = m.id ∧ (m.submit s).1.waited = m.waited := by
  unfold Mem.submit
  split
  · exact ⟨rfl, rfl, rfl, rfl, rfl, rfl, rfl, rfl, rfl, rfl, rfl⟩
  · split <;> exact ⟨rfl, rfl, rfl, rfl, rfl, rfl, rfl, rfl, rfl, rfl, rfl⟩
theorem gives_ginv {K : Clu} {t : Nat} (h : GInv K t) (ht : t + 1 ≤ 20000000000000) {k : Nat} (hk : k < 4) : GInv (K.gives k).1 (t + 1) ∧ (K.gives k).2 = true := by
  unfold Clu.gives
  cases hm : K.memAt k with
  | none => exact ⟨h.mono (Nat.le_succ t), rfl⟩
  | some m =>
    dsimp only
    have hsz := cmd_size (K.count.toNat + 1) (by have := h.c1; have := h.c0; omega)
    generalize cmdText (K.count.toNat + 1) = s at hsz ⊢
    obtain ⟨e1, e2, e3, e4, e5, e6, e7, e8, e9, e10, e11⟩ := submit_same m s
    have g := h.mb k m hk hm
    obtain ⟨hid, hkl, hM, hvo, hwas⟩ := h.a.ms k m hk hm
    have hr : (m.submit s).2 = 0 ∨ (m.submit s).2 = 6 := by
      unfold Mem.submit
      rw [if_neg (by omega)]
      split
      · exact .inr rfl
      · exact .inl rfl
    have hat : ∀ i, (({ K with count := K.count + 1 } : Clu).setMem k (m.submit s).1).memAt i = if i = k then some (m.submit s).1 else K.memAt i := fun i => memAt_set' (K := { K with count := K.count + 1 }) (by show k < K.mem.length; rw [h.a.ml]; exact hk)
    have hsame : SameC K (({ K with count := K.count + 1 } : Clu).setMem k (m.submit s).1) := ⟨rfl, rfl, rfl, rfl, rfl⟩
    have hcm : (m.submit s).1.commands = m.commands := by unfold Mem.commands Mem.block; rw [e5, e1]
    have hsum : (({ K with count := K.count + 1 } : Clu).setMem k (m.submit s).1).sumW = K.sumW := by
      unfold Clu.sumW
      rw [hat, hat, hat, hat]
      have hwk : wtO (some (m.submit s).1) = wtO (K.memAt k) := by rw [hm]; show (m.submit s).1.wt = m.wt; unfold Mem.wt; rw [e8, e9, e6]
      rcases (by omega : k = 0 ∨ k = 1 ∨ k = 2 ∨ k = 3) with rfl | rfl | rfl | rfl
      · rw [if_pos rfl, if_neg (by omega), if_neg (by omega), if_neg (by omega), hwk]
      · rw [if_neg (by omega), if_pos rfl, if_neg (by omega), if_neg (by omega), hwk]
      · rw [if_neg (by omega), if_neg (by omega), if_pos rfl, if_neg (by omega), hwk]
      · rw [if_neg (by omega), if_neg (by omega), if_neg (by omega), if_pos rfl, hwk]
    generalize hKK : ({ K with count := K.count + 1 } : Clu).setMem k (m.submit s).1 = K' at hat hsame hsum ⊢
    have hcount : K'.count = K.count + 1 := by rw [← hKK]; rfl
    have hwasK : ∀ i, K'.was i = K.was i := fun i => by rw [← hKK]; rfl
    have hlen : K'.mem.length = 4 := by rw [← hKK]; show (K.mem.set k _).length = 4; rw [List.length_set, h.a.ml]
    have hvo' : ∀ (i : Int) (m' : Mem), Vo K i m' → Vo K' i m' := fun i m' hv x hx hf => by
      rw [hsame.vt] at hx
      have := hv x hx hf
      have q1 : ∀ n, K'.gv n = K.gv n := fun n => by unfold Clu.gv; rw [hsame.bl]
      have q2 : ∀ n, K'.gu n = K.gu n := fun n => by unfold Clu.gu; rw [hsame.bl]
      rw [q2, q2, q1]; exact this
    refine ⟨⟨⟨hsame.cinv h.a.c, by unfold PwK; rw [hsame.vt]; exact h.a.pw, hlen, fun i mi hi hmi => ?_, fun i hi hmi => ?_⟩, ⟨by rw [hsame.bl]; exact h.ok.bl, by rw [hsame.vt]; exact h.ok.vt, by rw [hsame.li]; exact h.ok.l0, by rw [hsame.li]; exact h.ok.l1⟩, ?_, by rw [hsame.lt, hsum]; exact h.ll, by rw [hsame.lt]; exact h.lt, fun i mi hi hmi => ?_, by rw [hcount]; have := h.c0; omega, by rw [hcount]; have := h.c1; omega, fun i hi hil => ?_, by rw [hsame.cr]; exact h.cn⟩, by rcases hr with e | e <;> rw [e] <;> rfl⟩
    · rw [hat] at hmi
      rw [hwasK]
      by_cases hik : i = k
      · subst hik
        rw [if_pos rfl] at hmi
        obtain rfl := Option.some.inj hmi
        refine ⟨e10.trans hid, by rw [hsame.li]; exact hkl, hsame.ext.minv h.a.c.vg (hM.same e1 e2 e3 e4 e5), hvo' _ _ (fun x hx hf => by rw [e9, e3]; exact hvo x hx hf), ⟨by rw [hcm]; exact hwas.lg, by rw [e8]; exact hwas.vw, by rw [e2]; exact hwas.hi, by rw [e3]; exact hwas.lk⟩⟩
      · rw [if_neg hik] at hmi
        obtain ⟨a1, a2, a3, a4, a5⟩ := h.a.ms i mi hi hmi
        exact ⟨a1, by rw [hsame.li]; exact a2, hsame.ext.minv h.a.c.vg a3, hvo' _ _ a4, a5⟩
    · rw [hat] at hmi
      rw [hwasK]
      by_cases hik : i = k
      · rw [if_pos hik] at hmi; cases hmi
      · rw [if_neg hik] at hmi
        exact h.a.wz i hi hmi
    · unfold LQ
      rw [hsame.lt]
      exact ⟨by rw [hsame.lt]; exact h.lq.lt, by rw [hsame.cr]; exact h.lq.ct, by rw [hsame.vt]; exact h.lq.vt, by rw [hsame.bl]; exact h.lq.bl⟩
    · rw [hat] at hmi
      by_cases hik : i = k
      · rw [if_pos hik] at hmi
        obtain rfl := Option.some.inj hmi
        exact ⟨g.b.same e6 e1 e7, inv_submit g.iv s, inv2_submit g.i2 s, kn_blocks g.kn e1, by rw [e11]; have := g.w; omega⟩
      · rw [if_neg hik] at hmi
        have g2 := h.mb i mi hi hmi
        exact ⟨g2.b, g2.iv, g2.i2, g2.kn, by have := g2.w; omega⟩
    · rw [hat]
      by_cases hik : i = k
      · rw [if_pos hik]; exact ⟨_, rfl⟩
      · rw [if_neg hik]; rw [hsame.li] at hil; exact h.mn i hi hil
/-! The start. -/
theorem find_new {n : Nat} {b : Blk} {i p : Int} (h : (Mem.new i p).block n = some b) : n = 0 ∧ b = Blk.zero := by
  change find n [(0, Blk.zero)] = some b at h
  unfold find at h
  split at h
  · rename_i e; exact ⟨e.symm, (Option.some.inj h).symm⟩
  · cases h
theorem begins_mat (liar p : Int) {k : Nat} (hk : k < 4) : (Clu.begins liar p).memAt k = if (k : Int) = liar then none else some (Mem.new k p) := by
  rcases (by omega : k = 0 ∨ k = 1 ∨ k = 2 ∨ k = 3) with rfl | rfl | rfl | rfl <;> rfl
theorem begins_ginv (liar p : Int) (hl : 0 ≤ liar ∧ liar ≤ 3) (hp : 1 ≤ p ∧ p ≤ 100) : GInv (Clu.begins liar p) 0 := by
  have hv : (Clu.begins liar p).voted = [] := rfl
  have hz : BackC (Clu.begins liar p) 0 0 := .inl ⟨rfl, rfl⟩
  have hm : ∀ k m, k < 4 → (Clu.begins liar p).memAt k = some m → (k : Int) ≠ liar ∧ m = Mem.new k p := fun k m hk he => by
    rw [begins_mat liar p hk] at he
    split at he
    · cases he
    · rename_i hn; exact ⟨hn, (Option.some.inj he).symm⟩
  have hwas : ∀ k, (Clu.begins liar p).was k = Sta.zero := fun k => by
    unfold Clu.was
    split
    · rfl
    · split
      · rfl
      · split <;> rfl
  refine ⟨⟨⟨hl, (fun t ht => by cases ht), (fun t ht => by cases ht), (fun t ht => by cases ht), fun c hc => ?_, (fun l hl => by cases hl)⟩, List.Pairwise.nil, rfl, fun k m hk he => ?_, fun k hk _ => by rw [hwas]; rfl⟩, ⟨(fun o ho => by cases ho), (fun o ho => by cases ho), by show -1 ≤ liar; omega, hl.2⟩, ⟨Nat.zero_le _, Nat.le_refl 1, Nat.zero_le _, Nat.zero_le _⟩, Nat.zero_le _, (fun l hl => by cases hl), fun k m hk he => ?_, Int.le_refl 0, Int.le_refl 0, fun k hk hkl => ?_, Nat.le_refl 1⟩
  · have : c = Crt.zero := by simpa [Clu.begins] using hc
    rw [this]; exact hz
  · obtain ⟨h1, rfl⟩ := hm k m hk he
    refine ⟨rfl, h1, ⟨fun n b hb h0 => absurd (find_new hb).1 h0, fun n b hb => ?_, hz, hz, Int.le_refl _, (fun t ht => by cases ht), fun h => absurd rfl h⟩, (fun t ht => by cases ht), ?_⟩
    · rw [(find_new hb).2]; exact hz
    · rw [hwas]; exact ⟨.inl rfl, by show (0 : Int) ≤ 1; decide, Int.le_refl _, Int.le_refl _⟩
  · obtain ⟨h1, rfl⟩ := hm k m hk he
    exact ⟨⟨List.Pairwise.nil, (fun v hv => by cases hv), by show ([0] : List Nat).Nodup; simp, (fun t ht => by cases ht)⟩, inv_new k p ⟨by omega, by omega, hp.1, hp.2⟩, inv2_new k p, (mok_new k p ⟨by omega, by omega, hp.1, hp.2⟩).kn, Int.le_refl 0⟩
  · rw [begins_mat liar p hk, if_neg (show ¬ (k : Int) = liar from hkl)]; exact ⟨_, rfl⟩
/-- One step. -/
def Clu.happens (K : Clu) (kind a b : Int) (go : Nat → Bool) : Clu × Bool :=
  if kind = 1 then K.ticks (pickN a 4)
  else if kind = 2 then
    if K.letters.length = 0 then (K, true) else K.comes (pickN b 4) (K.letters.getD (K.letters.length - 1 - pickN a K.letters.length) ⟨0, Msg.zero⟩).msg
  else if kind = 3 then K.gives (pickN a 4)
  else if kind = 4 ∨ kind = 5 ∨ kind = 6 then if K.letters.length < 3000 then K.lies kind a b go else (K, true)
  else (K, true)
theorem happens_ginv {K : Clu} {t : Nat} (h : GInv K t) (ht : t + 1 ≤ 20000000000000) (kind a b : Int) (go : Nat → Bool) (ho : (K.happens kind a b go).1.over = false) : GInv (K.happens kind a b go).1 (t + 1) ∧ (K.happens kind a b go).2 = true := by
  have p4 := pickN_lt a 4 (by decide)
  have q4 := pickN_lt b 4 (by decide)
  unfold Clu.happens at ho ⊢
  by_cases k1 : kind = 1
  · rw [if_pos k1] at ho ⊢; exact ticks_ginv h (by omega) p4 ho
  rw [if_neg k1] at ho ⊢
  by_cases k2 : kind = 2
  · rw [if_pos k2] at ho ⊢
    by_cases hl : K.letters.length = 0
    · rw [if_pos hl]; exact ⟨h.mono (Nat.le_succ t), rfl⟩
    · rw [if_neg hl] at ho ⊢
      have hpk := pickN_lt a K.letters.length (by omega)
      have hi : K.letters.length - 1 - pickN a K.letters.length < K.letters.length := by omega
      have he : K.letters.getD (K.letters.length - 1 - pickN a K.letters.length) ⟨0, Msg.zero⟩ = K.letters[K.letters.length - 1 - pickN a K.letters.length] := by
        rw [List.getD_eq_getElem?_getD, List.getElem?_eq_getElem hi]; rfl
      rw [he] at ho ⊢
      have hmem := List.getElem_mem hi
      obtain ⟨h1, h2⟩ := comes_ginv h (by omega) q4 (h.lt _ hmem).1 (h.a.c.ltr _ hmem) ho
      exact ⟨h1.mono (Nat.le_succ t), h2⟩
  rw [if_neg k2] at ho ⊢
  by_cases k3 : kind = 3
  · rw [if_pos k3]; exact gives_ginv h ht p4
  rw [if_neg k3] at ho ⊢
  by_cases k4 : kind = 4 ∨ kind = 5 ∨ kind = 6
  · rw [if_pos k4] at ho ⊢
    by_cases hl : K.letters.length < 3000
    · rw [if_pos hl] at ho ⊢; exact lies_ginv h ht hl kind a b go ho
    · rw [if_neg hl]; exact ⟨h.mono (Nat.le_succ t), rfl⟩
  · rw [if_neg k4]; exact ⟨h.mono (Nat.le_succ t), rfl⟩
end Go.Proofs.YtkehpnobidendaaDoor

namespace Go.Proofs.YtkehpnobidendaaDoor
open Go.RowKit
section
variable (q : Nat → List ByteArray)
/-- The command of a view's block. -/
def cmdN (v : Nat) : ByteArray := (q (v % 4)).getD ((v - 1) / 4) ⟨#[]⟩
def crtOf (v n : Nat) : Crt := if v = 0 then Crt.zero else ⟨(v : Int), n, sealOf 0 2 (v : Int) n, sealOf 1 2 (v : Int) n, sealOf 2 2 (v : Int) n, 0⟩
/-- The block of a view. -/
def bk : Nat → Blk
  | 0 => Blk.zero
  | v + 1 => ⟨((v + 1 : Nat) : Int), crtOf v (bk v).num, cmdN q (v + 1)⟩
def nm (v : Nat) : Nat := if v = 0 then 0 else (bk q v).num
def ct (v : Nat) : Crt := crtOf v (bk q v).num
/-- The blocks up to a view. -/
def bls (B : Nat) : List (Nat × Blk) := (List.range (B + 1)).map fun u => (nm q u, bk q u)
/-- The log up to a view. -/
def lgs (c : Nat) : List Nat := (List.range c).map fun i => nm q (i + 1)
def cms (c : Nat) : List ByteArray := (List.range c).map fun i => cmdN q (i + 1)
def Dist (B : Nat) : Prop := ∀ u w, u ≤ B → w ≤ B → nm q u = nm q w → u = w
def cn (k B : Nat) : Nat := (B + (4 - k) % 4) / 4
/-- A member: a: the view that it has seen the proposal of; h: its certificate's; B: its blocks; c: its votes. -/
structure FM (m : Mem) (k a h B c : Nat) : Prop where
  i : m.id = (k : Int)
  vw : m.view = (a : Int) + 1
  vo : m.voted ≤ (a : Int)
  bl : m.blocks = bls q B
  hi : m.high = ct q h
  lk : m.locked = ct q (h - 1)
  lo : m.log = lgs q (h - 2)
  en : m.enters = []
  pr : ∀ u ∈ m.proposed, u ≤ (B : Int)
  qu : m.queue = (q k).drop (cn k B)
  vt : ∀ t ∈ m.votes, ∃ u, 1 ≤ u ∧ u ≤ c ∧ t.n = nm q u
  pd : h = a → (a + 1) % 4 = k → m.proposed.contains m.view = true
/-- The proposal of a view, and a vote. -/
def pMsg (v : Nat) : Msg := { Msg.zero with kind := 1, fro := ((v % 4 : Nat) : Int), view := (v : Int), block := bk q v, sl := sealOf ((v % 4 : Nat) : Int) 1 (v : Int) (bk q v).num }
def vMsg (v k : Nat) : Msg := { Msg.zero with kind := 2, fro := (k : Int), view := (v : Int), number := (bk q v).num, sl := sealOf (k : Int) 2 (v : Int) (bk q v).num }
def pLtr (v : Nat) : Ltr := ⟨-1, pMsg q v⟩
def vLtr (v k : Nat) : Ltr := ⟨(((v + 1) % 4 : Nat) : Int), vMsg q v k⟩
end
variable {q : Nat → List ByteArray}
theorem nm_zero : nm q 0 = 0 := rfl
theorem nm_succ (v : Nat) : nm q (v + 1) = (bk q (v + 1)).num := rfl
theorem nm_pos {v : Nat} (h : 1 ≤ v) : nm q v = (bk q v).num := if_neg (by omega)
theorem ct_view (v : Nat) : (ct q v).view = (v : Int) := by
  unfold ct crtOf
  split
  · rename_i h; subst h; rfl
  · rfl
theorem ct_block (v : Nat) : (ct q v).block = nm q v := by
  unfold ct crtOf nm
  split
  · rfl
  · rfl
theorem bk_just (v : Nat) : (bk q (v + 1)).just = ct q v := rfl
theorem bk_view (v : Nat) : (bk q v).view = (v : Int) := by cases v <;> rfl
theorem ct_good (v : Nat) : (ct q v).good = true := by
  unfold Crt.good
  by_cases h : v = 0
  · subst h; exact good_first rfl
  · unfold ct crtOf
    rw [if_neg h]
    dsimp only
    rw [good_not (by unfold firstB; simp; omega)]
    have e : cnt (v : Int) (bk q v).num (sealOf 0 2 (v : Int) (bk q v).num) (sealOf 1 2 (v : Int) (bk q v).num) (sealOf 2 2 (v : Int) (bk q v).num) 0 4 = hit (v : Int) (bk q v).num 0 (sealOf 0 2 (v : Int) (bk q v).num) + hit (v : Int) (bk q v).num 1 (sealOf 1 2 (v : Int) (bk q v).num) + hit (v : Int) (bk q v).num 2 (sealOf 2 2 (v : Int) (bk q v).num) + hit (v : Int) (bk q v).num 3 0 := rfl
    rw [e, hit_yes (by simp), hit_yes (by simp), hit_yes (by simp)]
    simp
    omega
theorem Dist.mono {B C : Nat} (h : Dist q B) (hc : C ≤ B) : Dist q C := fun u w hu hw e => h u w (by omega) (by omega) e
theorem Dist.pos {B : Nat} (h : Dist q B) {u : Nat} (h1 : 1 ≤ u) (hu : u ≤ B) : nm q u ≠ 0 := fun e => by
  have := h u 0 hu (Nat.zero_le _) (by rw [e]; rfl)
  omega
theorem find_map (l : List Nat) (hd : ∀ a ∈ l, ∀ b ∈ l, nm q a = nm q b → a = b) {u : Nat} (hu : u ∈ l) : find (nm q u) (l.map fun a => (nm q a, bk q a)) = some (bk q u) := by
  induction l with
  | nil => cases hu
  | cons a r ih =>
    rw [List.map_cons, find]
    by_cases e : nm q a = nm q u
    · rw [if_pos e, hd a (by simp) u hu e]
    · rw [if_neg e]
      rcases List.mem_cons.1 hu with h | h
      · exact absurd (by rw [h]) e
      · exact ih (fun x hx y hy => hd x (by simp [hx]) y (by simp [hy])) h
theorem find_mapn {n : Nat} (l : List Nat) (hd : ∀ a ∈ l, nm q a ≠ n) : find n (l.map fun a => (nm q a, bk q a)) = none := by
  induction l with
  | nil => rfl
  | cons a r ih =>
    rw [List.map_cons, find, if_neg (hd a (by simp))]
    exact ih (fun x hx => hd x (by simp [hx]))
theorem fblk {m : Mem} {B : Nat} (hb : m.blocks = bls q B) (hd : Dist q B) {u : Nat} (hu : u ≤ B) : m.block (nm q u) = some (bk q u) := by
  unfold Mem.block
  rw [hb]
  refine find_map _ (fun a ha b hb => hd a b ?_ ?_) ?_
  · have := List.mem_range.1 ha; omega
  · have := List.mem_range.1 hb; omega
  · exact List.mem_range.2 (by omega)
theorem bls_succ (B : Nat) : bls q (B + 1) = bls q B ++ [(nm q (B + 1), bk q (B + 1))] := by
  unfold bls
  rw [List.range_succ (n := B + 1), List.map_append]
  rfl
theorem lgs_succ (c : Nat) : lgs q (c + 1) = lgs q c ++ [nm q (c + 1)] := by
  unfold lgs
  rw [List.range_succ, List.map_append]
  rfl
theorem knows_old {m : Mem} {B : Nat} (hb : m.blocks = bls q B) (hd : Dist q B) {u : Nat} (h1 : 1 ≤ u) (hu : u ≤ B) : m.knows (bk q u) = m := by
  unfold Mem.knows
  rw [← nm_pos h1, fblk hb hd hu]
  rfl
theorem knows_next {m : Mem} {B : Nat} (hb : m.blocks = bls q B) (hd : Dist q (B + 1)) : m.knows (bk q (B + 1)) = { m with blocks := bls q (B + 1) } := by
  unfold Mem.knows
  have e : m.block (bk q (B + 1)).num = none := by
    unfold Mem.block
    rw [hb]
    refine find_mapn _ (fun a ha => ?_)
    have h1 := List.mem_range.1 ha
    intro e
    have := hd a (B + 1) (by omega) (by omega) e
    omega
  rw [e, bls_succ, ← hb]
  rfl
theorem logged_at {m : Mem} {B c : Nat} (hl : m.log = lgs q c) (hd : Dist q B) {u : Nat} (hu : u ≤ B) (_hc : c ≤ B := by omega) : m.logged (nm q u) = decide (u ≤ c) := by
  unfold Mem.logged
  rw [hl]
  by_cases h : u ≤ c
  · rw [decide_eq_true h]
    by_cases h0 : u = 0
    · subst h0; simp [nm_zero]
    · have : nm q u ∈ lgs q c := List.mem_map.2 ⟨u - 1, List.mem_range.2 (by omega), by rw [show u - 1 + 1 = u by omega]⟩
      simp [this]
  · rw [decide_eq_false h]
    have h1 : nm q u ∉ lgs q c := fun hm => by
      obtain ⟨i, hi, e⟩ := List.mem_map.1 hm
      have := List.mem_range.1 hi
      have := hd (i + 1) u (by omega) hu e
      omega
    have h2 : nm q u ≠ 0 := hd.pos (by omega) hu
    simp [h1, h2]
theorem commit_flow {m : Mem} {B v h : Nat} (hb : m.blocks = bls q B) (hd : Dist q B) (hv : v + 2 ≤ B) (h1 : h ≤ v + 2) (h2 : v + 2 ≤ h + 1) (hl : m.log = lgs q (h - 2)) : m.commit (bk q (v + 2)) = { m with log := lgs q v } := by
  have hself : ∀ l, m.log = l → m = { m with log := l } := fun l e => by cases m; subst e; rfl
  unfold Mem.commit
  dsimp only
  have b1 : (bk q (v + 2)).just.block = nm q (v + 1) := ct_block (v + 1)
  have b2 : m.block (nm q (v + 1)) = some (bk q (v + 1)) := fblk hb hd (by omega)
  have b3 : (bk q (v + 1)).just.block = nm q v := ct_block v
  have b4 : m.block (nm q v) = some (bk q v) := fblk hb hd (by omega)
  have b5 := logged_at hl hd (show v ≤ B by omega) (by omega)
  simp only [b1, b2, Option.getD_some, b3, b4, b5, bk_view]
  by_cases hlt : v ≤ h - 2
  · rw [decide_eq_true hlt, Bool.true_or, Bool.true_or, if_pos rfl]
    exact hself _ (by rw [hl]; congr 1; omega)
  · rw [decide_eq_false hlt, if_neg (by simp; omega)]
    have hh : h = v + 1 := by omega
    subst hh
    obtain ⟨u, rfl⟩ : ∃ u, v = u + 1 := ⟨v - 1, by omega⟩
    have hlog : m.log = lgs q u := by rw [hl]; rfl
    have hup : m.up (nm q (u + 1)) = nm q u := by unfold Mem.up; rw [fblk hb hd (show u + 1 ≤ B by omega)]; exact ct_block u
    have n0 : nm q (u + 1) ≠ 0 := hd.pos (by omega) (by omega)
    have hmore : m.more (m.blocks.length + 1) (nm q (u + 1)) = [nm q (u + 1)] := by
      rw [Mem.more, hup, logged_at hlog hd (show u ≤ B by omega)]
      simp
    rw [hmore, hlog]
    have hgo : (!(lgs q u).isEmpty && !m.above ((lgs q u).getLastD 0) (m.blocks.length + 1) (nm q (u + 1))) = false := by
      cases u with
      | zero => rfl
      | succ w =>
        have hlast : (lgs q (w + 1)).getLastD 0 = nm q (w + 1) := by rw [lgs_succ]; simp
        have hlen : m.blocks.length = B + 1 := by rw [hb]; simp [bls]
        rw [hlast, hlen, Mem.above, if_neg (fun e => by have := hd _ _ (by omega) (by omega) e; omega), if_neg n0, hup, Mem.above, if_pos rfl]
        simp
    rw [hgo, if_neg (by decide), List.reverse_singleton, ← lgs_succ]
theorem learn_flow {m : Mem} {B v h : Nat} (hb : m.blocks = bls q B) (hd : Dist q B) (hv : v ≤ B) (h1 : h ≤ v) (h2 : v ≤ h + 1) (hh : m.high = ct q h) (hk : m.locked = ct q (h - 1)) (hl : m.log = lgs q (h - 2)) :
    m.learn (ct q v) = { m with high := ct q v, locked := ct q (v - 1), log := lgs q (v - 2) } := by
  unfold Mem.learn
  have e1 : (if (ct q v).view > m.high.view then { m with high := ct q v } else m) = { m with high := ct q v } := by
    split
    · rfl
    · rename_i hn
      rw [hh, ct_view, ct_view] at hn
      have : h = v := by omega
      subst this
      cases m; cases hh; rfl
  dsimp only
  rw [e1, ct_block]
  rcases Nat.eq_zero_or_pos v with h0 | hpos
  · subst h0
    rw [if_pos nm_zero]
    obtain rfl : h = 0 := by omega
    cases m; cases hk; cases hl; rfl
  · rw [if_neg (hd.pos hpos hv)]
    have hb1 : ({ m with high := ct q v } : Mem).block (nm q v) = some (bk q v) := fblk (m := { m with high := ct q v }) hb hd hv
    rw [hb1]
    dsimp only [Option.getD]
    obtain ⟨u, rfl⟩ : ∃ u, v = u + 1 := ⟨v - 1, by omega⟩
    have e2 : ({ m with high := ct q (u + 1) } : Mem).lock1 (bk q (u + 1)) = { m with high := ct q (u + 1), locked := ct q u } := by
      unfold Mem.lock1
      split
      · rfl
      · rename_i hn
        have hn' : ¬ (ct q u).view > m.locked.view := hn
        rw [hk, ct_view, ct_view] at hn'
        have : h - 1 = u := by omega
        rw [this] at hk
        cases m; cases hk; rfl
    have b1 : (bk q (u + 1)).just.block = nm q u := ct_block u
    unfold Mem.lock1 at e2
    rw [e2]
    rcases Nat.eq_zero_or_pos u with h0 | hpos
    · subst h0
      rw [if_pos (b1.trans nm_zero)]
      have : m.log = lgs q (0 + 1 - 2) := by rw [hl]; congr 1; omega
      cases m; cases this; rfl
    · rw [if_neg (by rw [b1]; exact hd.pos hpos (by omega))]
      obtain ⟨w, rfl⟩ : ∃ w, u = w + 1 := ⟨u - 1, by omega⟩
      rw [commit_flow (m := { m with high := ct q (w + 1 + 1), locked := ct q (w + 1) }) hb hd hv h1 h2 hl]
      rfl
end Go.Proofs.YtkehpnobidendaaDoor

namespace Go.Proofs.YtkehpnobidendaaDoor
open Go.RowKit
variable {q : Nat → List ByteArray}
set_option maxRecDepth 100000 in
theorem cn_next {k v : Nat} (hk : k < 4) (h : (v + 1) % 4 = k) : cn k v = v / 4 ∧ cn k (v + 1) = v / 4 + 1 := by unfold cn; omega
set_option maxRecDepth 100000 in
theorem cn_same {k v : Nat} (hk : k < 4) (h : (v + 1) % 4 ≠ k) : cn k (v + 1) = cn k v := by unfold cn; omega
set_option maxRecDepth 100000 in
theorem FM.may {m : Mem} {k a h B c : Nat} (f : FM q m k a h B c) : m.may = false := by
  unfold Mem.may
  rw [f.en, f.i, f.hi, ct_view]
  by_cases h1 : h = a
  · by_cases h2 : (a + 1) % 4 = k
    · rw [f.pd h1 h2]; simp
    · have : (m.view % 4 == (k : Int)) = false := by rw [f.vw]; simp; omega
      rw [this]; rfl
  · have : ((h : Int) == m.view - 1) = false := by rw [f.vw]; simp; omega
    rw [this]; simp
set_option maxRecDepth 100000 in
theorem ends_not {m : Mem} (h : m.may = false) : m.ends = (m, []) := by unfold Mem.ends; rw [if_neg (by rw [h]; decide)]
set_option maxRecDepth 100000 in
theorem cmdN_size (hq : ∀ j, ∀ c ∈ q j, c.size ≤ 16) (v : Nat) : (cmdN q v).size ≤ 16 := by
  unfold cmdN
  rw [List.getD_eq_getElem?_getD]
  cases e : (q (v % 4))[(v - 1) / 4]? with
  | none => exact Nat.zero_le _
  | some s => exact hq _ s (List.mem_of_getElem? e)
set_option maxRecDepth 100000 in
theorem fm_prop {m : Mem} {k v h B c : Nat} (f : FM q m k v h B c) (hk : k < 4) (hq : ∀ j, ∀ c ∈ q j, c.size ≤ 16) (hd : Dist q (v + 1)) (hv : v + 1 < 1000) (h1 : h ≤ v) (h2 : v ≤ h + 1) (hB : B = v + 1 ∨ (B = v ∧ (v + 1) % 4 ≠ k)) :
    (m.handle (pMsg q (v + 1))).2.1 = [vLtr q (v + 1) k] ∧ FM q (m.handle (pMsg q (v + 1))).1 k (v + 1) v (v + 1) c := by
  have hBv : v ≤ B := by omega
  have hdB : Dist q B := hd.mono (by omega)
  have c1 : ¬ ((pMsg q (v + 1)).view < 1 ∨ 1000 < (pMsg q (v + 1)).view ∨ (pMsg q (v + 1)).fro ≠ (pMsg q (v + 1)).view % 4 ∨ (pMsg q (v + 1)).block.view ≠ (pMsg q (v + 1)).view ∨ 16 < (pMsg q (v + 1)).block.cmd.size ∨ (pMsg q (v + 1)).block.just.view < 0 ∨ (pMsg q (v + 1)).view ≤ (pMsg q (v + 1)).block.just.view) := by
    have a1 : (pMsg q (v + 1)).view = (v : Int) + 1 := rfl
    have a2 : (pMsg q (v + 1)).fro = (((v + 1) % 4 : Nat) : Int) := rfl
    have a3 : (pMsg q (v + 1)).block.view = (v : Int) + 1 := rfl
    have a4 : (pMsg q (v + 1)).block.just.view = (v : Int) := ct_view v
    have a5 : (pMsg q (v + 1)).block.cmd.size ≤ 16 := cmdN_size hq (v + 1)
    rw [a1, a2, a3, a4]
    omega
  have c2 : ¬ ((pMsg q (v + 1)).sl ≠ sealOf (pMsg q (v + 1)).fro 1 (pMsg q (v + 1)).view (pMsg q (v + 1)).block.num ∨ (pMsg q (v + 1)).block.just.good = false) := by
    rintro (h | h)
    · exact h (by simp only [pMsg])
    · rw [show (pMsg q (v + 1)).block.just.good = true from ct_good v] at h; cases h
  have c3 : m.block (pMsg q (v + 1)).block.just.block = some (bk q v) := by
    rw [show (pMsg q (v + 1)).block.just.block = nm q v from ct_block v]; exact fblk f.bl hdB hBv
  have c4 : ¬ ((bk q v).view ≠ (pMsg q (v + 1)).block.just.view) := by
    rw [show (pMsg q (v + 1)).block.just.view = (v : Int) from ct_view v, bk_view]; simp
  have c5 : ¬ ((pMsg q (v + 1)).view < m.view ∨ (pMsg q (v + 1)).view ≤ m.voted) := by
    rw [show (pMsg q (v + 1)).view = (v : Int) + 1 from rfl, f.vw]
    have := f.vo
    omega
  have c6 : (m.knows (pMsg q (v + 1)).block).learn (pMsg q (v + 1)).block.just = { m with blocks := bls q (v + 1), high := ct q v, locked := ct q (v - 1), log := lgs q (v - 2) } := by
    have e1 : m.knows (pMsg q (v + 1)).block = { m with blocks := bls q (v + 1) } := by
      rcases hB with rfl | ⟨rfl, _⟩
      · rw [show (pMsg q (v + 1)).block = bk q (v + 1) from rfl, knows_old f.bl hd (by omega) (Nat.le_refl _)]
        have := f.bl
        cases m; cases this; rfl
      · exact knows_next f.bl hd
    rw [e1]
    exact learn_flow (m := { m with blocks := bls q (v + 1) }) rfl hd (by omega) h1 h2 f.hi f.lk f.lo
  have e : m.takes (pMsg q (v + 1)) = ({ m with blocks := bls q (v + 1), high := ct q v, locked := ct q (v - 1), log := lgs q (v - 2), voted := (v : Int) + 1, view := (v : Int) + 1 + 1, waited := 0 }, [vLtr q (v + 1) k], 0) := by
    unfold Mem.takes
    rw [if_pos (show (pMsg q (v + 1)).kind = 1 from rfl)]
    unfold Mem.proposal
    dsimp only
    rw [if_neg c1, if_neg c2, c3]
    dsimp only
    rw [if_neg c4, if_neg c5, c6]
    have c7 : (({ m with blocks := bls q (v + 1), high := ct q v, locked := ct q (v - 1), log := lgs q (v - 2) } : Mem).above ({ m with blocks := bls q (v + 1), high := ct q v, locked := ct q (v - 1), log := lgs q (v - 2) } : Mem).locked.block (({ m with blocks := bls q (v + 1), high := ct q v, locked := ct q (v - 1), log := lgs q (v - 2) } : Mem).blocks.length + 1) (pMsg q (v + 1)).block.just.block || decide (({ m with blocks := bls q (v + 1), high := ct q v, locked := ct q (v - 1), log := lgs q (v - 2) } : Mem).locked.view < (pMsg q (v + 1)).block.just.view)) = true := by
      rcases Nat.eq_zero_or_pos v with h0 | hp
      · subst h0
        rw [Mem.above, if_pos (show (pMsg q (0 + 1)).block.just.block = (ct q (0 - 1)).block from rfl)]
        rfl
      · have : decide ((ct q (v - 1)).view < (ct q v).view) = true := by rw [ct_view, ct_view]; simp; omega
        rw [Bool.or_eq_true]
        exact .inr this
    rw [if_pos c7]
    dsimp only
    rw [if_pos (by rw [show (pMsg q (v + 1)).view = (v : Int) + 1 from rfl]; omega)]
    have hl : (⟨((pMsg q (v + 1)).view + 1) % 4, { Msg.zero with kind := 2, fro := m.id, view := (pMsg q (v + 1)).view, number := (pMsg q (v + 1)).block.num, sl := sealOf m.id 2 (pMsg q (v + 1)).view (pMsg q (v + 1)).block.num }⟩ : Ltr) = vLtr q (v + 1) k := by
      rw [f.i]
      rfl
    rw [hl]
    rfl
  unfold Mem.handle
  rw [e]
  have g : FM q ({ m with blocks := bls q (v + 1), high := ct q v, locked := ct q (v - 1), log := lgs q (v - 2), voted := (v : Int) + 1, view := (v : Int) + 1 + 1, waited := 0 }) k (v + 1) v (v + 1) c := by
    refine ⟨f.i, by show _ = _; push_cast; rfl, by show _ ≤ _; push_cast; omega, rfl, rfl, rfl, rfl, f.en, fun u hu => ?_, ?_, f.vt, fun h => by omega⟩
    · have := f.pr u hu; push_cast; omega
    · show m.queue = _
      rw [f.qu]
      rcases hB with rfl | ⟨rfl, hne⟩
      · rfl
      · rw [cn_same hk hne]
  dsimp only
  rw [ends_not g.may]
  exact ⟨rfl, g⟩
/-- A vote that was taken. -/
def tkN (q : Nat → List ByteArray) (v i : Nat) : Tk := ⟨(i : Int), (v : Int), (bk q v).num, sealOf (i : Int) 2 (v : Int) (bk q v).num⟩
set_option maxRecDepth 100000 in
theorem votes_add {m : Mem} {v i : Nat} (h : m.votesFor (bk q v).num = (List.range i).map (tkN q v)) : ({ m with votes := m.votes ++ [tkN q v i] } : Mem).votesFor (bk q v).num = (List.range (i + 1)).map (tkN q v) := by
  unfold Mem.votesFor at h ⊢
  dsimp only
  rw [List.filter_append, h, List.range_succ, List.map_append]
  congr 1
  simp [tkN]
set_option maxRecDepth 100000 in
theorem votes_none {m : Mem} {v c : Nat} (h1 : 1 ≤ v) (hd : Dist q v) (hc : c < v) (h : ∀ t ∈ m.votes, ∃ u, 1 ≤ u ∧ u ≤ c ∧ t.n = nm q u) : m.votesFor (bk q v).num = [] := by
  unfold Mem.votesFor
  rw [List.filter_eq_nil_iff]
  intro t ht
  obtain ⟨u, hu1, hu2, e⟩ := h t ht
  rw [e, ← nm_pos h1]
  simp
  intro h
  have := hd u v (by omega) (Nat.le_refl _) h
  omega
set_option maxRecDepth 100000 in
theorem vote_ok {m : Mem} {v B i : Nat} (hid : m.id = (((v + 1) % 4 : Nat) : Int)) (hbl : m.blocks = bls q B) (h1 : 1 ≤ v) (hv : v < 999) (hvB : v ≤ B) (hd : Dist q B) (hi : i < 4) :
    ¬ ((vMsg q v i).fro < 0 ∨ 3 < (vMsg q v i).fro ∨ (vMsg q v i).view < 1 ∨ 999 < (vMsg q v i).view ∨ m.id ≠ ((vMsg q v i).view + 1) % 4) ∧ ¬ ((vMsg q v i).sl ≠ sealOf (vMsg q v i).fro 2 (vMsg q v i).view (vMsg q v i).number) ∧ m.block (vMsg q v i).number = some (bk q v) ∧ ¬ ((bk q v).view ≠ (vMsg q v i).view) := by
  refine ⟨?_, fun h => h (by simp only [vMsg]), ?_, fun h => h (bk_view v)⟩
  · rw [hid, show (vMsg q v i).fro = (i : Int) from rfl, show (vMsg q v i).view = (v : Int) from rfl]
    omega
  · rw [show (vMsg q v i).number = nm q v from (nm_pos h1).symm]
    exact fblk hbl hd hvB
set_option maxRecDepth 100000 in
theorem range_any (v i : Nat) : ((List.range i).map (tkN q v)).any (fun t => t.fro == (i : Int)) = false := by
  rw [List.any_eq_false]
  intro t ht
  obtain ⟨j, hj, rfl⟩ := List.mem_map.1 ht
  have := List.mem_range.1 hj
  simp [tkN]
  omega
set_option maxRecDepth 100000 in
theorem fm_vote {m : Mem} {v i : Nat} (f : FM q m ((v + 1) % 4) v (v - 1) v v) (h1 : 1 ≤ v) (hv : v < 999) (hd : Dist q v) (hi : i < 2) (hvf : m.votesFor (bk q v).num = (List.range i).map (tkN q v)) :
    (m.handle (vMsg q v i)).2.1 = [] ∧ FM q (m.handle (vMsg q v i)).1 ((v + 1) % 4) v (v - 1) v v ∧ (m.handle (vMsg q v i)).1.votesFor (bk q v).num = (List.range (i + 1)).map (tkN q v) := by
  obtain ⟨c1, c2, c3, c4⟩ := vote_ok f.i f.bl h1 hv (Nat.le_refl v) hd (show i < 4 by omega)
  have e : m.takes (vMsg q v i) = ({ m with votes := m.votes ++ [tkN q v i] }, [], 0) := by
    unfold Mem.takes
    rw [if_neg (by show ¬ ((2 : Int) = 1); decide), if_pos (show (vMsg q v i).kind = 2 from rfl)]
    have ev : m.vote (vMsg q v i) = ({ m with votes := m.votes ++ [tkN q v i] }, 0) := by
      unfold Mem.vote
      rw [if_neg c1, if_neg c2, c3]
      dsimp only
      rw [if_neg c4, if_neg (by rw [show (vMsg q v i).view = (v : Int) from rfl, f.vw, f.hi, ct_view]; omega), show (vMsg q v i).number = (bk q v).num from rfl, hvf, show (vMsg q v i).fro = (i : Int) from rfl, range_any, if_neg (by decide), if_neg (by rw [List.length_map, List.length_range]; omega)]
      simp only [vMsg, tkN]
    rw [ev]
  have g : FM q ({ m with votes := m.votes ++ [tkN q v i] }) ((v + 1) % 4) v (v - 1) v v := ⟨f.i, f.vw, f.vo, f.bl, f.hi, f.lk, f.lo, f.en, f.pr, f.qu, fun t ht => by
    rcases List.mem_append.1 ht with h | h
    · exact f.vt t h
    · rw [List.mem_singleton.1 h]; exact ⟨v, h1, Nat.le_refl _, (nm_pos h1).symm⟩, f.pd⟩
  unfold Mem.handle
  rw [e]
  dsimp only
  rw [ends_not g.may]
  exact ⟨rfl, g, votes_add hvf⟩
set_option maxRecDepth 100000 in
theorem put3 (v : Nat) (h1 : 1 ≤ v) : (((List.range 2).map (tkN q v)).foldl (fun (c : Crt) t => c.put t.fro t.sl) { Crt.zero with view := (v : Int), block := (bk q v).num }).put ((2 : Nat) : Int) (sealOf ((2 : Nat) : Int) 2 (v : Int) (bk q v).num) = ct q v := by
  unfold ct crtOf
  rw [if_neg (by omega)]
  simp [List.range_succ, tkN, Crt.put, Crt.zero]
set_option maxRecDepth 100000 in
theorem fm_third {m : Mem} {v : Nat} (f : FM q m ((v + 1) % 4) v (v - 1) v v) (h1 : 1 ≤ v) (hv : v < 999) (hd : Dist q v) (hvf : m.votesFor (bk q v).num = (List.range 2).map (tkN q v)) :
    (m.handle (vMsg q v 2)).2.1 = [pLtr q (v + 1)] ∧ (Dist q (v + 1) → FM q (m.handle (vMsg q v 2)).1 ((v + 1) % 4) v v (v + 1) v) ∧ (m.handle (vMsg q v 2)).1.sta = ⟨(v : Int) + 1, (v : Int), ((v - 1 : Nat) : Int), (m.handle (vMsg q v 2)).1.commands⟩ := by
  obtain ⟨c1, c2, c3, c4⟩ := vote_ok f.i f.bl h1 hv (Nat.le_refl v) hd (show 2 < 4 by omega)
  have e : m.takes (vMsg q v 2) = ({ m with votes := m.votes ++ [tkN q v 2], high := ct q v, locked := ct q (v - 1), log := lgs q (v - 2) }, [], 0) := by
    unfold Mem.takes
    rw [if_neg (by show ¬ ((2 : Int) = 1); decide), if_pos (show (vMsg q v 2).kind = 2 from rfl)]
    have ev : m.vote (vMsg q v 2) = ({ m with votes := m.votes ++ [tkN q v 2], high := ct q v, locked := ct q (v - 1), log := lgs q (v - 2) }, 0) := by
      unfold Mem.vote
      rw [if_neg c1, if_neg c2, c3]
      dsimp only
      rw [if_neg c4, if_neg (by rw [show (vMsg q v 2).view = (v : Int) from rfl, f.vw, f.hi, ct_view]; omega), show (vMsg q v 2).number = (bk q v).num from rfl, hvf, show (vMsg q v 2).fro = ((2 : Nat) : Int) from rfl, range_any, if_neg (by decide), if_pos (by rw [List.length_map, List.length_range]; omega)]
      have ec := put3 (q := q) v h1
      have el := learn_flow (m := { m with votes := m.votes ++ [tkN q v 2] }) (v := v) f.bl hd (Nat.le_refl v) (by omega) (by omega) f.hi f.lk f.lo
      rw [← ec] at el
      have el2 : ({ m with votes := m.votes ++ [⟨((2 : Nat) : Int), (vMsg q v 2).view, (bk q v).num, (vMsg q v 2).sl⟩] } : Mem).learn ((((List.range 2).map (tkN q v)).foldl (fun (c : Crt) t => c.put t.fro t.sl) { Crt.zero with view := (vMsg q v 2).view, block := (bk q v).num }).put ((2 : Nat) : Int) (vMsg q v 2).sl) = { m with votes := m.votes ++ [tkN q v 2], high := ct q v, locked := ct q (v - 1), log := lgs q (v - 2) } := by
        rw [ec] at el
        refine Eq.trans ?_ el
        rw [← ec]
        simp only [vMsg, tkN]
      rw [el2]
      dsimp only
      rw [if_neg (by rw [f.vw, show (vMsg q v 2).view = (v : Int) from rfl]; omega)]
    rw [ev]
  have hk : (v + 1) % 4 < 4 := Nat.mod_lt _ (by decide)
  have hmay : ({ m with votes := m.votes ++ [tkN q v 2], high := ct q v, locked := ct q (v - 1), log := lgs q (v - 2) } : Mem).may = true := by
    unfold Mem.may
    dsimp only
    have p1 : (m.view % 4 == m.id) = true := by rw [f.vw, f.i]; simp
    have p2 : m.proposed.contains m.view = false := by
      rw [f.vw]
      cases hc : m.proposed.contains ((v : Int) + 1) with
      | false => rfl
      | true =>
        have := f.pr _ (List.contains_iff_mem.1 hc)
        omega
    have p3 : ((ct q v).view == m.view - 1) = true := by rw [ct_view, f.vw]; simp
    rw [p1, p2, p3]
    rfl
  have hnext : ({ m with votes := m.votes ++ [tkN q v 2], high := ct q v, locked := ct q (v - 1), log := lgs q (v - 2) } : Mem).next = bk q (v + 1) := by
    unfold Mem.next
    dsimp only
    have hc : m.queue.headD ⟨#[]⟩ = cmdN q (v + 1) := by
      rw [f.qu, (cn_next hk rfl).1]
      unfold cmdN
      rw [List.getD_eq_getElem?_getD, List.headD_eq_head?_getD, List.head?_drop]
      rfl
    rw [hc, f.vw]
    rfl
  unfold Mem.handle
  rw [e]
  dsimp only
  have hends : ({ m with votes := m.votes ++ [tkN q v 2], high := ct q v, locked := ct q (v - 1), log := lgs q (v - 2) } : Mem).ends = (({ m with votes := m.votes ++ [tkN q v 2], high := ct q v, locked := ct q (v - 1), log := lgs q (v - 2), queue := m.queue.tail, proposed := m.proposed ++ [m.view] } : Mem).knows (bk q (v + 1)), [pLtr q (v + 1)]) := by
    unfold Mem.ends
    rw [if_pos hmay]
    dsimp only
    rw [hnext, f.vw, f.i]
    rfl
  rw [hends]
  refine ⟨rfl, fun hd2 => ?_, ?_⟩
  · dsimp only
    rw [knows_next (m := { m with votes := m.votes ++ [tkN q v 2], high := ct q v, locked := ct q (v - 1), log := lgs q (v - 2), queue := m.queue.tail, proposed := m.proposed ++ [m.view] }) f.bl hd2]
    refine ⟨f.i, f.vw, f.vo, rfl, rfl, rfl, rfl, f.en, fun u hu => ?_, ?_, fun t ht => ?_, fun _ _ => ?_⟩
    · rcases List.mem_append.1 hu with h | h
      · have := f.pr u h; push_cast; omega
      · rw [List.mem_singleton.1 h, f.vw]; push_cast; omega
    · show m.queue.tail = _
      rw [f.qu, List.tail_drop, (cn_next hk rfl).1, (cn_next hk rfl).2]
    · rcases List.mem_append.1 ht with h | h
      · exact f.vt t h
      · rw [List.mem_singleton.1 h]; exact ⟨v, h1, Nat.le_refl _, (nm_pos h1).symm⟩
    · show (m.proposed ++ [m.view]).contains m.view = true
      simp
  · dsimp only
    unfold Mem.sta
    have hkk : ∀ (m : Mem) (b : Blk), (m.knows b).view = m.view ∧ (m.knows b).high = m.high ∧ (m.knows b).locked = m.locked := fun m b => by unfold Mem.knows; split <;> exact ⟨rfl, rfl, rfl⟩
    rw [(hkk _ _).1, (hkk _ _).2.1, (hkk _ _).2.2]
    dsimp only
    rw [f.vw, ct_view, ct_view]
set_option maxRecDepth 100000 in
theorem fm_fourth {m : Mem} {v : Nat} (f : FM q m ((v + 1) % 4) v v (v + 1) v) (h1 : 1 ≤ v) (hv : v < 999) (hd : Dist q (v + 1)) : m.handle (vMsg q v 3) = (m, [], 4) := by
  obtain ⟨c1, c2, c3, c4⟩ := vote_ok f.i f.bl h1 hv (Nat.le_succ v) hd (show 3 < 4 by omega)
  have e : m.takes (vMsg q v 3) = (m, [], 4) := by
    unfold Mem.takes
    rw [if_neg (by show ¬ ((2 : Int) = 1); decide), if_pos (show (vMsg q v 3).kind = 2 from rfl)]
    have ev : m.vote (vMsg q v 3) = (m, 4) := by
      unfold Mem.vote
      rw [if_neg c1, if_neg c2, c3]
      dsimp only
      rw [if_neg c4, if_pos (by rw [show (vMsg q v 3).view = (v : Int) from rfl, f.hi, ct_view]; omega)]
    rw [ev]
  unfold Mem.handle
  rw [e]
  dsimp only
  rw [ends_not f.may]
  rfl
set_option maxRecDepth 100000 in
theorem fm_commands {m : Mem} {k a h B c : Nat} (f : FM q m k a h B c) (hd : Dist q B) (hh : h ≤ B) : m.commands = cms q (h - 2) := by
  unfold Mem.commands cms
  rw [f.lo]
  unfold lgs
  rw [List.map_map]
  refine List.map_congr_left (fun i hi => ?_)
  have := List.mem_range.1 hi
  show ((m.block (nm q (i + 1))).getD Blk.zero).cmd = _
  rw [fblk f.bl hd (show i + 1 ≤ B by omega)]
  rfl
def staN (q : Nat → List ByteArray) (a h : Nat) : Sta := ⟨(a : Int) + 1, (h : Int), ((h - 1 : Nat) : Int), cms q (h - 2)⟩
set_option maxRecDepth 100000 in
theorem fm_sta {m : Mem} {k a h B c : Nat} (f : FM q m k a h B c) (hd : Dist q B) (hh : h ≤ B) : m.sta = staN q a h := by
  unfold Mem.sta staN
  rw [fm_commands f hd hh, f.vw, f.hi, f.lk, ct_view, ct_view]
set_option maxRecDepth 100000 in
theorem cms_le {a b : Nat} (h : a ≤ b) : isPrefix (cms q a) (cms q b) = true := by
  obtain ⟨d, rfl⟩ : ∃ d, b = a + d := ⟨b - a, by omega⟩
  have : cms q (a + d) = cms q a ++ (List.range d).map fun i => cmdN q (a + i + 1) := by
    unfold cms
    rw [List.range_add, List.map_append, List.map_map]
    rfl
  rw [this]
  exact isPrefix_more _ (isPrefix_refl _)
set_option maxRecDepth 100000 in
theorem sta_grows {a b h g : Nat} (h1 : a ≤ b) (h2 : h ≤ g) : (staN q a h).grows (staN q b g) = true := by
  unfold Sta.grows staN
  dsimp only
  rw [cms_le (by omega), decide_eq_true (by omega), decide_eq_true (by omega), decide_eq_true (by omega), decide_eq_true (by omega)]
  rfl
/-- A member that was given its commands. -/
def mem0 (q : Nat → List ByteArray) (k : Nat) : Mem := { Mem.new (k : Int) 50 with queue := q k }
set_option maxRecDepth 100000 in
theorem wait0 (k : Nat) : (mem0 q k).wait = ({ mem0 q k with waited := 1 }, []) := by
  unfold Mem.wait
  rw [if_neg (by rintro ⟨h, _⟩; exact absurd h (by show ¬ ((50 : Int) ≤ 0 + 1); decide))]
  rfl
set_option maxRecDepth 100000 in
theorem fm_wait {k : Nat} (h1 : k ≠ 1) : (mem0 q k).tick.2 = [] ∧ FM q (mem0 q k).tick.1 k 0 0 0 0 := by
  have g : FM q { mem0 q k with waited := 1 } k 0 0 0 0 := by
    refine ⟨rfl, rfl, Int.le_refl _, rfl, rfl, rfl, rfl, rfl, fun u hu => (by cases hu), ?_, fun t ht => (by cases ht), fun _ h => ?_⟩
    · show q k = _
      rw [show cn k 0 = 0 by unfold cn; omega]; rfl
    · exact absurd h.symm h1
  unfold Mem.tick
  rw [wait0]
  dsimp only
  rw [ends_not g.may]
  exact ⟨rfl, g⟩
set_option maxRecDepth 100000 in
theorem fm_first : (mem0 q 1).tick.2 = [pLtr q 1] ∧ (Dist q 1 → FM q (mem0 q 1).tick.1 1 0 0 1 0) ∧ (mem0 q 1).tick.1.sta = staN q 0 0 := by
  have hnext : ({ mem0 q 1 with waited := 1 } : Mem).next = bk q 1 := by
    unfold Mem.next
    have hc : ({ mem0 q 1 with waited := 1 } : Mem).queue.headD ⟨#[]⟩ = cmdN q 1 := by
      show (q 1).headD _ = (q 1).getD 0 _
      cases q 1 <;> rfl
    rw [hc]
    rfl
  have hends : ({ mem0 q 1 with waited := 1 } : Mem).ends = (({ mem0 q 1 with waited := 1, queue := (q 1).tail, proposed := [1] } : Mem).knows (bk q 1), [pLtr q 1]) := by
    unfold Mem.ends
    rw [if_pos (show ({ mem0 q 1 with waited := 1 } : Mem).may = true from rfl)]
    dsimp only
    rw [hnext]
    rfl
  unfold Mem.tick
  rw [wait0]
  dsimp only
  rw [hends]
  refine ⟨rfl, fun hd => ?_, ?_⟩
  · dsimp only
    rw [knows_next (B := 0) (m := { mem0 q 1 with waited := 1, queue := (q 1).tail, proposed := [1] }) rfl hd]
    refine ⟨rfl, rfl, Int.le_refl _, rfl, rfl, rfl, rfl, rfl, fun u hu => ?_, ?_, fun t ht => (by cases ht), fun _ _ => rfl⟩
    · rw [List.mem_singleton.1 hu]; decide
    · show (q 1).tail = _
      rw [show cn 1 1 = 1 from rfl]; simp
  · dsimp only
    unfold Mem.sta Mem.knows
    split <;> rfl
end Go.Proofs.YtkehpnobidendaaDoor

namespace Go.Proofs.YtkehpnobidendaaDoor
open Go.RowKit
variable {q : Nat → List ByteArray}
/-- The letter of that place. -/
def ltrN (q : Nat → List ByteArray) (i : Nat) : Ltr := if i % 5 = 0 then pLtr q (i / 5 + 1) else vLtr q (i / 5 + 1) (i % 5 - 1)
theorem ltr_p {v : Nat} (h : 1 ≤ v) : ltrN q (5 * v - 5) = pLtr q v := by
  unfold ltrN
  rw [if_pos (by omega), show (5 * v - 5) / 5 + 1 = v by omega]
theorem ltr_v {v k : Nat} (h : 1 ≤ v) (hk : k < 4) : ltrN q (5 * v - 4 + k) = vLtr q v k := by
  unfold ltrN
  rw [if_neg (by omega), show (5 * v - 4 + k) / 5 + 1 = v by omega, show (5 * v - 4 + k) % 5 - 1 = k by omega]
/-- The cluster but for its members. -/
structure FB (q : Nat → List ByteArray) (K : Clu) (N v j T : Nat) : Prop where
  li : K.liar = -1
  lt : K.letters = (List.range N).map (ltrN q)
  ml : K.mem.length = 4
  vd : ∀ t ∈ K.voted, t.view < (v : Int) ∨ (t.view = (v : Int) ∧ t.fro < (j : Int))
  bb : K.blocks = (List.range T).map fun i => bk q (i + 1)
  di : Dist q T
  ov : K.over = false
structure FC (q : Nat → List ByteArray) (K : Clu) (N v j T : Nat) (P : Nat → Mem → Sta → Prop) : Prop where
  b : FB q K N v j T
  ms : ∀ k, k < 4 → ∃ m, K.memAt k = some m ∧ P k m (K.was k)
theorem FC.imp {K : Clu} {N v j T : Nat} {P R : Nat → Mem → Sta → Prop} (h : FC q K N v j T P) (hi : ∀ k m s, k < 4 → P k m s → R k m s) : FC q K N v j T R := ⟨h.b, fun k hk => by
  obtain ⟨m, h1, h2⟩ := h.ms k hk
  exact ⟨m, h1, hi k m _ hk h2⟩⟩
/-- What follows a call of a member. -/
theorem fc_after {K K1 : Clu} {k : Nat} {m m' : Mem} {o : List Ltr} {N v j T N' v' j' T' : Nat} {P R : Nat → Mem → Sta → Prop} (h : FC q K N v j T P) (hk : k < 4) (hm : K.memAt k = some m) (hs : K.sends k o = (K1, true)) (hb : FB q K1 N' v' j' T') (hmem : K1.mem = K.mem) (hwas : ∀ i, K1.was i = K.was i)
    (hg : P k m (K.was k) → (K.was k).grows m'.sta = true) (hR : P k m (K.was k) → R k m' m'.sta) (hO : ∀ i m s, i < 4 → i ≠ k → P i m s → R i m s) : (K.after k m' o).2 = true ∧ FC q (K.after k m' o).1 N' v' j' T' R := by
  obtain ⟨m2, hm2, hp⟩ := h.ms k hk
  obtain rfl : m = m2 := Option.some.inj (hm.symm.trans hm2)
  rw [after_is, hs]
  dsimp only
  have hml : k < K1.mem.length := by rw [hb.ml]; exact hk
  have sw := setWas_same (K1.setMem k m') k m'.sta
  refine ⟨by rw [hwas, hg hp]; rfl, ⟨⟨?_, ?_, ?_, ?_, ?_, hb.di, ?_⟩, fun i hi => ?_⟩⟩
  · rw [sw.li]; exact hb.li
  · rw [sw.lt]; exact hb.lt
  · rw [(setWas_mem _ _ _).1]; show (K1.mem.set k (some m')).length = 4; rw [List.length_set]; exact hb.ml
  · rw [sw.vt]; exact hb.vd
  · rw [sw.bl]; exact hb.bb
  · rw [(setWas_mem _ _ _).2]; exact hb.ov
  · rw [setWas_at _ hk hi]
    have e : ((K1.setMem k m').setWas k m'.sta).memAt i = if i = k then some m' else K1.memAt i := by
      rw [← memAt_set' hml]
      unfold Clu.memAt
      rw [(setWas_mem _ _ _).1]
    rw [e]
    by_cases hik : i = k
    · rw [if_pos hik, if_pos hik]
      subst hik
      exact ⟨m', rfl, hR hp⟩
    · rw [if_neg hik, if_neg hik]
      obtain ⟨mi, h1, h2⟩ := h.ms i hi
      refine ⟨mi, ?_, ?_⟩
      · unfold Clu.memAt; rw [hmem]; exact h1
      · show R i mi (K1.was i); rw [hwas]; exact hO i mi _ hi hik h2
/-- A vote goes out. -/
theorem fb_vote {K : Clu} {N v k T : Nat} (h : FB q K N v k T) (hl : ltrN q N = vLtr q v k) : ∃ K1, K.sends k [vLtr q v k] = (K1, true) ∧ FB q K1 (N + 1) v (k + 1) T ∧ K1.mem = K.mem ∧ ∀ i, K1.was i = K.was i := by
  have hn : ¬ ((vLtr q v k).msg.fro ≠ (k : Int) ∨ (vLtr q v k).to < -1 ∨ 3 < (vLtr q v k).to) := by
    rw [show (vLtr q v k).msg.fro = (k : Int) from rfl, show (vLtr q v k).to = (((v + 1) % 4 : Nat) : Int) from rfl]
    omega
  have hany : K.voted.any (fun t => t.fro == (k : Int) && t.view == (vLtr q v k).msg.view) = false := by
    rw [List.any_eq_false]
    intro t ht
    have := h.vd t ht
    rw [show (vLtr q v k).msg.view = (v : Int) from rfl]
    simp
    omega
  have e := send1_v (K := K) hn rfl
  rw [hany, if_neg (by decide)] at e
  refine ⟨_, sends_good e, ?_, ?_, ?_⟩
  · unfold Clu.voteEnd
    dsimp only
    have hlt : K.letters ++ [vLtr q v k] = (List.range (N + 1)).map (ltrN q) := by rw [List.range_succ, List.map_append, h.lt, List.map_singleton, hl]
    have hvd : ∀ t ∈ K.voted ++ [⟨(k : Int), (vLtr q v k).msg.view, (vLtr q v k).msg.number⟩], t.view < (v : Int) ∨ (t.view = (v : Int) ∧ t.fro < ((k + 1 : Nat) : Int)) := fun t ht => by
      rcases List.mem_append.1 ht with h1 | h1
      · have := h.vd t h1; omega
      · rw [List.mem_singleton.1 h1]
        right
        exact ⟨rfl, by show (k : Int) < _; omega⟩
    split
    · exact ⟨h.li, hlt, h.ml, hvd, h.bb, h.di, h.ov⟩
    · exact ⟨h.li, hlt, h.ml, hvd, h.bb, h.di, h.ov⟩
  · unfold Clu.voteEnd
    dsimp only
    show (if _ then _ else _ : Clu).mem = _
    split <;> rfl
  · intro i
    unfold Clu.voteEnd
    dsimp only
    show (if _ then _ else _ : Clu).was i = _
    split <;> rfl
theorem first_of {n : Nat} : ∀ {l : List Blk} {o : Blk}, firstOf n l = some o → o ∈ l ∧ o.num = n
  | [], _, h => by cases h
  | a :: r, o, h => by
    rw [firstOf] at h
    split at h
    · cases h; rename_i e; exact ⟨by simp, e⟩
    · obtain ⟨h1, h2⟩ := first_of h
      exact ⟨by simp [h1], h2⟩
theorem first_none {n : Nat} : ∀ {l : List Blk}, firstOf n l = none → ∀ o ∈ l, o.num ≠ n
  | [], _, o, ho => by cases ho
  | a :: r, h, o, ho => by
    rw [firstOf] at h
    split at h
    · cases h
    · rename_i e
      rcases List.mem_cons.1 ho with rfl | h1
      · exact e
      · exact first_none h o h1
/-- A proposal goes out. -/
theorem fb_prop {K : Clu} {N v j k T : Nat} (h : FB q K N v j T) (hk : k = (T + 1) % 4) (hl : ltrN q N = pLtr q (T + 1)) : ∃ K1, K.sends k [pLtr q (T + 1)] = (K1, true) ∧ (K1.over = true ∨ FB q K1 (N + 1) v j (T + 1)) ∧ K1.mem = K.mem ∧ ∀ i, K1.was i = K.was i := by
  have hn : ¬ ((pLtr q (T + 1)).msg.fro ≠ (k : Int) ∨ (pLtr q (T + 1)).to < -1 ∨ 3 < (pLtr q (T + 1)).to) := by
    rw [show (pLtr q (T + 1)).msg.fro = (((T + 1) % 4 : Nat) : Int) from rfl, show (pLtr q (T + 1)).to = -1 from rfl, hk]
    omega
  have e := send1_prop (K := K) hn rfl
  have hs := meets_same (K.addL (pLtr q (T + 1))) (pLtr q (T + 1)).msg.block
  have hkp := meets_keep (K.addL (pLtr q (T + 1))) (pLtr q (T + 1)).msg.block
  refine ⟨_, sends_good e, ?_, hs.2.2.2.1, fun i => hs.2.2.2.2.1 i⟩
  show ((K.addL (pLtr q (T + 1))).meets (bk q (T + 1))).over = true ∨ FB q ((K.addL (pLtr q (T + 1))).meets (bk q (T + 1))) (N + 1) v j (T + 1)
  have hlt : K.letters ++ [pLtr q (T + 1)] = (List.range (N + 1)).map (ltrN q) := by rw [List.range_succ, List.map_append, h.lt, List.map_singleton, hl]
  unfold Clu.meets
  have hbl : (K.addL (pLtr q (T + 1))).blocks = K.blocks := rfl
  rw [hbl]
  cases hf : firstOf (bk q (T + 1)).num K.blocks with
  | some o =>
    obtain ⟨ho, _⟩ := first_of hf
    rw [h.bb] at ho
    obtain ⟨i, hi, rfl⟩ := List.mem_map.1 ho
    have := List.mem_range.1 hi
    left
    show ((_ || _) || (bk q (i + 1)).other (bk q (T + 1))) = true
    have ho : (bk q (i + 1)).other (bk q (T + 1)) = true := by
      unfold Blk.other
      rw [bk_view, bk_view]
      have : (((i + 1 : Nat) : Int) != ((T + 1 : Nat) : Int)) = true := by simp; omega
      rw [this]; rfl
    rw [ho, Bool.or_true]
  | none =>
    by_cases hz : (bk q (T + 1)).num = 0
    · left
      show (_ || ((bk q (T + 1)).num == 0)) = true
      rw [hz]; simp
    · right
      have hno := first_none hf
      have hdi : Dist q (T + 1) := by
        have key : ∀ u, u ≤ T → nm q u ≠ nm q (T + 1) := fun u hu he => by
          rcases Nat.eq_zero_or_pos u with h0 | hp
          · subst h0; exact hz he.symm
          · refine hno (bk q u) ?_ ?_
            · rw [h.bb]; exact List.mem_map.2 ⟨u - 1, List.mem_range.2 (by omega), by rw [show u - 1 + 1 = u by omega]⟩
            · rw [← nm_pos hp]; exact he
        intro u w hu hw he
        by_cases hu1 : u = T + 1
        · by_cases hw1 : w = T + 1
          · omega
          · exact absurd (by rw [← he, hu1]) (key w (by omega))
        · by_cases hw1 : w = T + 1
          · exact absurd (by rw [he, hw1]) (key u (by omega))
          · exact h.di u w (by omega) (by omega) he
      refine ⟨h.li, hlt, h.ml, h.vd, ?_, hdi, ?_⟩
      · show K.blocks ++ [bk q (T + 1)] = _
        rw [List.range_succ, List.map_append, h.bb]; rfl
      · show (K.over || ((bk q (T + 1)).num == 0)) = false
        rw [h.ov]; simpa using hz
theorem after_over {K : Clu} {k : Nat} {m : Mem} {o : List Ltr} : (K.after k m o).1.over = (K.sends k o).1.over := by
  rw [after_is]
  exact (setWas_mem _ _ _).2
theorem over_back {a b : Clu} (h : b.over = false → a.over = false) (ha : a.over = true) : b.over = true := by
  cases e : b.over with
  | true => rfl
  | false => rw [h e] at ha; cases ha
theorem ticks_over {K : Clu} {k : Nat} (h : (K.ticks k).1.over = false) : K.over = false := by
  unfold Clu.ticks at h
  cases hm : K.memAt k with
  | none => rw [hm] at h; exact h
  | some m => rw [hm] at h; dsimp only at h; rw [after_over] at h; exact sends_over _ _ h
theorem goes_over {l : Ltr} : ∀ (f k : Nat) {K : Clu}, (K.goes l f k).1.over = false → K.over = false
  | 0, _, _, h => h
  | f + 1, k, K, h => by
    rw [Clu.goes] at h
    split at h
    · dsimp only at h
      split at h
      · exact comes_over (goes_over f (k + 1) h)
      · exact comes_over h
    · exact goes_over f (k + 1) h
theorem flows_over : ∀ (n at1 : Nat) {K : Clu}, (K.flows at1 n).1.over = false → K.over = false
  | 0, _, _, h => h
  | n + 1, at1, K, h => by
    rw [Clu.flows] at h
    split at h
    · exact h
    · dsimp only at h
      split at h
      · exact goes_over _ _ (flows_over n (at1 + 1) h)
      · exact goes_over _ _ h
theorem allTick_over : ∀ (f k : Nat) {K : Clu}, (K.allTick f k).1.over = false → K.over = false
  | 0, _, _, h => h
  | f + 1, k, K, h => by
    rw [Clu.allTick] at h
    split at h
    · exact ticks_over (allTick_over f (k + 1) h)
    · exact ticks_over h
/-! The members, phase by phase. -/
def P0 (q : Nat → List ByteArray) (v k : Nat) (m : Mem) (s : Sta) : Prop := (k = v % 4 → FM q m k (v - 1) (v - 1) v (v - 1) ∧ s = staN q (v - 1) (v - 1)) ∧ (k ≠ v % 4 → FM q m k (v - 1) (v - 2) (v - 1) (v - 1) ∧ s = staN q (v - 1) (v - 2))
def P2 (q : Nat → List ByteArray) (v i k : Nat) (m : Mem) (s : Sta) : Prop := FM q m k v (v - 1) v v ∧ s = staN q v (v - 1) ∧ (k = (v + 1) % 4 → m.votesFor (bk q v).num = (List.range i).map (tkN q v))
def PI (q : Nat → List ByteArray) (v j k : Nat) (m : Mem) (s : Sta) : Prop := (k < j → P2 q v 0 k m s) ∧ (j ≤ k → P0 q v k m s)
theorem FM.more {m : Mem} {k a h B c d : Nat} (f : FM q m k a h B c) (hd : c ≤ d) : FM q m k a h B d := ⟨f.i, f.vw, f.vo, f.bl, f.hi, f.lk, f.lo, f.en, f.pr, f.qu, fun t ht => by
  obtain ⟨u, h1, h2, h3⟩ := f.vt t ht
  exact ⟨u, h1, by omega, h3⟩, f.pd⟩
theorem comes_at {K : Clu} {k : Nat} {m : Mem} {x : Msg} (hm : K.memAt k = some m) : K.comes k x = K.after k (m.handle x).1 (m.handle x).2.1 := by
  unfold Clu.comes; rw [hm]
theorem ticks_at {K : Clu} {k : Nat} {m : Mem} (hm : K.memAt k = some m) : K.ticks k = K.after k m.tick.1 m.tick.2 := by
  unfold Clu.ticks; rw [hm]
/-- The proposal comes to a member. -/
theorem step_p {K : Clu} {v k : Nat} (hq : ∀ j, ∀ c ∈ q j, c.size ≤ 16) (h1 : 1 ≤ v) (hv : v < 1000) (hk : k < 4) (h : FC q K (5 * v - 4 + k) v k v (PI q v k)) : (K.comes k (pMsg q v)).2 = true ∧ FC q (K.comes k (pMsg q v)).1 (5 * v - 4 + (k + 1)) v (k + 1) v (PI q v (k + 1)) := by
  obtain ⟨m, hm, hp⟩ := h.ms k hk
  obtain ⟨u, rfl⟩ : ∃ u, v = u + 1 := ⟨v - 1, by omega⟩
  have hd := h.b.di
  have key : ∀ h B, FM q m k u h B u → h ≤ u → u ≤ h + 1 → h ≤ B → (B = u + 1 ∨ (B = u ∧ (u + 1) % 4 ≠ k)) → K.was k = staN q u h → (K.comes k (pMsg q (u + 1))).2 = true ∧ FC q (K.comes k (pMsg q (u + 1))).1 (5 * (u + 1) - 4 + (k + 1)) (u + 1) (k + 1) (u + 1) (PI q (u + 1) (k + 1)) := by
    intro h' B f a1 a2 a3 a4 hw
    obtain ⟨e1, g⟩ := fm_prop f hk hq hd hv a1 a2 a4
    obtain ⟨K1, hs, hb, hmem, hwas⟩ := fb_vote h.b (ltr_v h1 hk)
    have hsta : (m.handle (pMsg q (u + 1))).1.sta = staN q (u + 1) u := fm_sta g hd (by omega)
    rw [comes_at hm, e1]
    refine fc_after h hk hm hs hb hmem hwas (fun _ => ?_) (fun _ => ⟨fun _ => ⟨g.more (by omega), ?_, fun _ => ?_⟩, fun hc => by omega⟩) (fun i mi s hi hne hpi => ⟨fun hc => hpi.1 (by omega), fun hc => hpi.2 (by omega)⟩)
    · rw [hw, hsta]; exact sta_grows (by omega) a1
    · rw [hsta]; rfl
    · exact votes_none (c := u) h1 hd (by omega) g.vt
  have hp2 := hp.2 (Nat.le_refl _)
  by_cases hkl : k = (u + 1) % 4
  · obtain ⟨f, hw⟩ := hp2.1 hkl
    exact key u (u + 1) f (by omega) (by omega) (by omega) (.inl rfl) hw
  · obtain ⟨f, hw⟩ := hp2.2 hkl
    exact key (u - 1) u f (by omega) (by omega) (by omega) (.inr ⟨rfl, fun e => hkl e.symm⟩) hw
theorem goes_p {K : Clu} {v : Nat} (hq : ∀ j, ∀ c ∈ q j, c.size ≤ 16) (h1 : 1 ≤ v) (hv : v < 1000) (h : FC q K (5 * v - 4) v 0 v (P0 q v)) : (K.goes (pLtr q v) 4 0).2 = true ∧ FC q (K.goes (pLtr q v) 4 0).1 (5 * v) (v + 1) 0 v (P2 q v 0) := by
  have hto : ∀ k : Nat, (pLtr q v).to = (k : Int) ∨ (pLtr q v).to < 0 := fun k => .inr (by show (-1 : Int) < 0; decide)
  have h0 : FC q K (5 * v - 4 + 0) v 0 v (PI q v 0) := h.imp (fun k m s _ hp => ⟨fun hc => by omega, fun _ => hp⟩)
  have aux : ∀ (f k : Nat) (K : Clu), f + k = 4 → FC q K (5 * v - 4 + k) v k v (PI q v k) → (K.goes (pLtr q v) f k).2 = true ∧ FC q (K.goes (pLtr q v) f k).1 (5 * v - 4 + 4) v 4 v (PI q v 4) := by
    intro f
    induction f with
    | zero => intro k K hfk hK; obtain rfl : k = 4 := by omega
              exact ⟨rfl, hK⟩
    | succ f ih =>
      intro k K hfk hK
      rw [goes_hit (hto k), show (pLtr q v).msg = pMsg q v from rfl]
      obtain ⟨e, g⟩ := step_p hq h1 hv (by omega) hK
      rw [if_pos e]
      exact ih (k + 1) _ (by omega) g
  obtain ⟨e, g⟩ := aux 4 0 K rfl h0
  refine ⟨e, ⟨⟨g.b.li, ?_, g.b.ml, fun t ht => ?_, g.b.bb, g.b.di, g.b.ov⟩, fun k hk => ?_⟩⟩
  · rw [g.b.lt, show 5 * v - 4 + 4 = 5 * v by omega]
  · rcases g.b.vd t ht with h | h
    · left; push_cast; omega
    · left; push_cast; omega
  · obtain ⟨m, hm, hp⟩ := g.ms k hk
    exact ⟨m, hm, hp.1 hk⟩
theorem goes_one {K : Clu} {l : Ltr} {k : Nat} (hk : k < 4) (hto : l.to = (k : Int)) : K.goes l 4 0 = K.comes k l.msg := by
  have miss : ∀ (j : Nat), j ≠ k → ¬ (l.to = (j : Int) ∨ l.to < 0) := fun j hj => by rw [hto]; omega
  have hit : l.to = (k : Int) ∨ l.to < 0 := .inl hto
  have pr : ∀ r : Clu × Bool, (if r.2 then (r.1, true) else r) = r := fun r => by
    obtain ⟨a, b⟩ := r
    cases b <;> rfl
  rcases (by omega : k = 0 ∨ k = 1 ∨ k = 2 ∨ k = 3) with rfl | rfl | rfl | rfl
  · rw [goes_hit hit, goes_miss (miss 1 (by decide)), goes_miss (miss 2 (by decide)), goes_miss (miss 3 (by decide))]; exact pr _
  · rw [goes_miss (miss 0 (by decide)), goes_hit hit, goes_miss (miss 2 (by decide)), goes_miss (miss 3 (by decide))]; exact pr _
  · rw [goes_miss (miss 0 (by decide)), goes_miss (miss 1 (by decide)), goes_hit hit, goes_miss (miss 3 (by decide))]; exact pr _
  · rw [goes_miss (miss 0 (by decide)), goes_miss (miss 1 (by decide)), goes_miss (miss 2 (by decide)), goes_hit hit]; exact pr _
theorem step_v {K : Clu} {v i : Nat} (h1 : 1 ≤ v) (hv : v < 999) (hi : i < 2) (h : FC q K (5 * v) (v + 1) 0 v (P2 q v i)) : (K.goes (vLtr q v i) 4 0).2 = true ∧ FC q (K.goes (vLtr q v i) 4 0).1 (5 * v) (v + 1) 0 v (P2 q v (i + 1)) := by
  have hk : (v + 1) % 4 < 4 := Nat.mod_lt _ (by decide)
  rw [goes_one hk rfl]
  obtain ⟨m, hm, f, hw, hvf⟩ := h.ms _ hk
  obtain ⟨e1, g, e2⟩ := fm_vote f h1 hv h.b.di hi (hvf rfl)
  have hsta : (m.handle (vMsg q v i)).1.sta = staN q v (v - 1) := fm_sta g h.b.di (by omega)
  rw [show (vLtr q v i).msg = vMsg q v i from rfl, comes_at hm, e1]
  refine fc_after h hk hm rfl h.b rfl (fun _ => rfl) (fun _ => ?_) (fun _ => ⟨g, hsta, fun _ => e2⟩) (fun k mk s _ hne hp => ⟨hp.1, hp.2.1, fun e => absurd e hne⟩)
  rw [hw, hsta]; exact sta_grows (Nat.le_refl _) (Nat.le_refl _)
theorem step_3 {K : Clu} {v : Nat} (h1 : 1 ≤ v) (hv : v < 999) (h : FC q K (5 * v) (v + 1) 0 v (P2 q v 2)) : (K.goes (vLtr q v 2) 4 0).1.over = true ∨ ((K.goes (vLtr q v 2) 4 0).2 = true ∧ FC q (K.goes (vLtr q v 2) 4 0).1 (5 * v + 1) (v + 1) 0 (v + 1) (P0 q (v + 1))) := by
  have hk : (v + 1) % 4 < 4 := Nat.mod_lt _ (by decide)
  rw [goes_one hk rfl]
  obtain ⟨m, hm, f, hw, hvf⟩ := h.ms _ hk
  obtain ⟨e1, g, _⟩ := fm_third f h1 hv h.b.di (hvf rfl)
  have hl : ltrN q (5 * v) = pLtr q (v + 1) := by have := ltr_p (q := q) (v := v + 1) (by omega); rw [← this]; congr 1
  obtain ⟨K1, hs, hb, hmem, hwas⟩ := fb_prop h.b rfl hl
  rw [show (vLtr q v 2).msg = vMsg q v 2 from rfl, comes_at hm, e1]
  rcases hb with ho | hb
  · left; rw [after_over, hs]; exact ho
  · right
    have g := g hb.di
    have hsta : (m.handle (vMsg q v 2)).1.sta = staN q v v := fm_sta g hb.di (by omega)
    refine fc_after h hk hm hs hb hmem hwas (fun _ => ?_) (fun _ => ⟨fun _ => ⟨g, hsta⟩, fun hne => absurd rfl hne⟩) (fun k mk s _ hne hp => ⟨fun e => absurd e hne, fun _ => ⟨hp.1, hp.2.1⟩⟩)
    rw [hw, hsta]; exact sta_grows (Nat.le_refl _) (by omega)
theorem step_4 {K : Clu} {v : Nat} (h1 : 1 ≤ v) (hv : v < 999) (h : FC q K (5 * v + 1) (v + 1) 0 (v + 1) (P0 q (v + 1))) : (K.goes (vLtr q v 3) 4 0).2 = true ∧ FC q (K.goes (vLtr q v 3) 4 0).1 (5 * v + 1) (v + 1) 0 (v + 1) (P0 q (v + 1)) := by
  have hk : (v + 1) % 4 < 4 := Nat.mod_lt _ (by decide)
  rw [goes_one hk rfl]
  obtain ⟨m, hm, hp, _⟩ := h.ms _ hk
  obtain ⟨f, hw⟩ := hp rfl
  have e := fm_fourth f h1 hv h.b.di
  have hsta : m.sta = staN q v v := fm_sta f h.b.di (by omega)
  rw [show (vLtr q v 3).msg = vMsg q v 3 from rfl, comes_at hm, e]
  refine fc_after h hk hm rfl h.b rfl (fun _ => rfl) (fun _ => ?_) (fun hp => ?_) (fun k mk s _ hne hp => hp)
  · rw [hw, hsta]; exact sta_grows (Nat.le_refl _) (Nat.le_refl _)
  · show P0 q (v + 1) _ m m.sta
    rw [hsta]
    exact ⟨fun _ => ⟨f, rfl⟩, fun hne => absurd rfl hne⟩
/-- The whole state ahead of a letter. -/
def StF (q : Nat → List ByteArray) (K : Clu) (at1 : Nat) : Prop :=
  (at1 % 5 = 0 ∧ FC q K (5 * (at1 / 5 + 1) - 4) (at1 / 5 + 1) 0 (at1 / 5 + 1) (P0 q (at1 / 5 + 1))) ∨
  ((at1 % 5 = 1 ∨ at1 % 5 = 2 ∨ at1 % 5 = 3) ∧ FC q K (5 * (at1 / 5 + 1)) (at1 / 5 + 1 + 1) 0 (at1 / 5 + 1) (P2 q (at1 / 5 + 1) (at1 % 5 - 1))) ∨
  (at1 % 5 = 4 ∧ FC q K (5 * (at1 / 5 + 1) + 1) (at1 / 5 + 1 + 1) 0 (at1 / 5 + 1 + 1) (P0 q (at1 / 5 + 1 + 1)))
theorem StF.len {K : Clu} {at1 : Nat} (h : StF q K at1) : ∃ N v j T P, FC q K N v j T P ∧ at1 < N := by
  rcases h with ⟨h0, h⟩ | ⟨h0, h⟩ | ⟨h0, h⟩
  · exact ⟨_, _, _, _, _, h, by omega⟩
  · exact ⟨_, _, _, _, _, h, by omega⟩
  · exact ⟨_, _, _, _, _, h, by omega⟩
theorem StF.step {K : Clu} {at1 : Nat} (hq : ∀ j, ∀ c ∈ q j, c.size ≤ 16) (hat : at1 < 4000) (h : StF q K at1) : (K.goes (ltrN q at1) 4 0).1.over = true ∨ ((K.goes (ltrN q at1) 4 0).2 = true ∧ StF q (K.goes (ltrN q at1) 4 0).1 (at1 + 1)) := by
  obtain ⟨v, hv⟩ : ∃ v, v = at1 / 5 + 1 := ⟨_, rfl⟩
  have h1 : 1 ≤ v := by omega
  have h2 : v < 999 := by omega
  unfold StF at h ⊢
  rw [← hv] at h
  rcases h with ⟨h0, h⟩ | ⟨h0, h⟩ | ⟨h0, h⟩
  · right
    have e : ltrN q at1 = pLtr q v := by rw [show at1 = 5 * v - 5 by omega]; exact ltr_p h1
    rw [e]
    obtain ⟨g1, g2⟩ := goes_p hq h1 (by omega) h
    refine ⟨g1, .inr (.inl ⟨by omega, ?_⟩)⟩
    rw [show (at1 + 1) / 5 + 1 = v by omega, show (at1 + 1) % 5 - 1 = 0 by omega]
    exact g2
  · have e : ltrN q at1 = vLtr q v (at1 % 5 - 1) := by unfold ltrN; rw [if_neg (by omega), ← hv]
    rw [e]
    by_cases h3 : at1 % 5 = 3
    · rw [h3] at h ⊢
      rcases step_3 h1 h2 h with g | ⟨g1, g2⟩
      · exact .inl g
      · refine .inr ⟨g1, .inr (.inr ⟨by omega, ?_⟩)⟩
        rw [show (at1 + 1) / 5 + 1 = v by omega]
        exact g2
    · right
      obtain ⟨g1, g2⟩ := step_v h1 h2 (show at1 % 5 - 1 < 2 by omega) h
      refine ⟨g1, .inr (.inl ⟨by omega, ?_⟩)⟩
      rw [show (at1 + 1) / 5 + 1 = v by omega, show (at1 + 1) % 5 - 1 = at1 % 5 - 1 + 1 by omega]
      exact g2
  · right
    have e : ltrN q at1 = vLtr q v 3 := by unfold ltrN; rw [if_neg (by omega), ← hv, h0]
    rw [e]
    obtain ⟨g1, g2⟩ := step_4 h1 h2 h
    refine ⟨g1, .inl ⟨by omega, ?_⟩⟩
    rw [show (at1 + 1) / 5 + 1 = v + 1 by omega, show 5 * (v + 1) - 4 = 5 * v + 1 by omega]
    exact g2
theorem flows_run (hq : ∀ j, ∀ c ∈ q j, c.size ≤ 16) : ∀ (n at1 : Nat) (K : Clu), at1 + n < 4000 → StF q K at1 → (K.flows at1 n).1.over = true ∨ ((K.flows at1 n).2.2 = true ∧ (K.flows at1 n).2.1 = at1 + n ∧ StF q (K.flows at1 n).1 (at1 + n))
  | 0, at1, K, _, h => .inr ⟨rfl, rfl, h⟩
  | n + 1, at1, K, hn, h => by
    obtain ⟨N, v, j, T, P, hc, hlt⟩ := h.len
    have hl : at1 < K.letters.length := by rw [hc.b.lt]; simpa using hlt
    have he : K.letters[at1] = ltrN q at1 := by simp [hc.b.lt]
    rw [flows_step hl, he]
    rcases h.step hq (by omega) with g | ⟨g1, g2⟩
    · left
      split
      · exact over_back (flows_over n (at1 + 1)) g
      · exact g
    · rw [if_pos g1, show at1 + (n + 1) = at1 + 1 + n by omega]
      exact flows_run hq n (at1 + 1) _ (by omega) g2
/-- What the law looks at in the end. -/
structure FEnd (q : Nat → List ByteArray) (K : Clu) (N T : Nat) : Prop where
  lt : K.letters = (List.range N).map (ltrN q)
  n1 : 1 ≤ N
  n2 : N ≤ 5000
  t : T = (N + 4) / 5
  lg : ∀ k, k < 4 → ∃ c, (K.was k).log = cms q c ∧ T ≤ c + 4 ∧ (2 < T → c + 3 ≤ T) ∧ (T < 4 → c = 0)
theorem StF.fin {K : Clu} {at1 : Nat} (hat : at1 < 4000) (h : StF q K at1) : ∃ N T, FEnd q K N T := by
  have key0 : ∀ v N, 1 ≤ v → N = 5 * v - 4 → at1 < 5 * v → v ≤ 900 → (∀ k, k < 4 → ∃ m, K.memAt k = some m ∧ P0 q v k m (K.was k)) → K.letters = (List.range N).map (ltrN q) → ∃ N T, FEnd q K N T := by
    intro v N hv hN _ h9 hm hl
    refine ⟨N, v, hl, by omega, by omega, by omega, fun k hk => ?_⟩
    obtain ⟨m, _, p1, p2⟩ := hm k hk
    by_cases hkl : k = v % 4
    · rw [(p1 hkl).2]; exact ⟨v - 1 - 2, rfl, by omega, by omega, by omega⟩
    · rw [(p2 hkl).2]; exact ⟨v - 2 - 2, rfl, by omega, by omega, by omega⟩
  rcases h with ⟨h0, h⟩ | ⟨h0, h⟩ | ⟨h0, h⟩
  · exact key0 (at1 / 5 + 1) _ (by omega) rfl (by omega) (by omega) h.ms h.b.lt
  · refine ⟨_, at1 / 5 + 1, h.b.lt, by omega, by omega, by omega, fun k hk => ?_⟩
    obtain ⟨m, _, _, hw, _⟩ := h.ms k hk
    rw [hw]; exact ⟨at1 / 5 + 1 - 1 - 2, rfl, by omega, by omega, by omega⟩
  · exact key0 (at1 / 5 + 1 + 1) _ (by omega) (by omega) (by omega) (by omega) h.ms h.b.lt
theorem FEnd.agree {K : Clu} {N T : Nat} (h : FEnd q K N T) : K.agree = true := agree_yes (fun i k hi hk => by
  obtain ⟨c, e1, _⟩ := h.lg i hi
  obtain ⟨d, e2, _⟩ := h.lg k (by omega)
  unfold Clu.agr
  rw [e1, e2]
  rcases Nat.le_total c d with hcd | hcd
  · rw [cms_le hcd]; rfl
  · rw [cms_le hcd, Bool.or_true])
/-- The cluster whose members were given their commands. -/
structure Start (q : Nat → List ByteArray) (K : Clu) : Prop where
  b : FB q K 0 1 0 0
  ms : ∀ k, k < 4 → K.memAt k = some (mem0 q k) ∧ K.was k = Sta.zero
def PT (q : Nat → List ByteArray) (j k : Nat) (m : Mem) (s : Sta) : Prop := (k < j → P0 q 1 k m s) ∧ (j ≤ k → m = mem0 q k ∧ s = Sta.zero)
theorem zero_grows : Sta.zero.grows (staN q 0 0) = true := rfl
theorem step_t {K : Clu} {N T k : Nat} (hk : k < 4) (h1 : k ≠ 1) (h : FC q K N 1 0 T (PT q k)) : (K.ticks k).2 = true ∧ FC q (K.ticks k).1 N 1 0 T (PT q (k + 1)) := by
  obtain ⟨m, hm, _, hp⟩ := h.ms k hk
  obtain ⟨rfl, hw⟩ := hp (Nat.le_refl _)
  obtain ⟨e1, g⟩ := fm_wait (q := q) h1
  have hsta : (mem0 q k).tick.1.sta = staN q 0 0 := fm_sta g (fun u w hu hw _ => by omega) (Nat.le_refl _)
  rw [ticks_at hm, e1]
  refine fc_after h hk hm rfl h.b rfl (fun _ => rfl) (fun _ => ?_) (fun _ => ⟨fun _ => ⟨fun hc => absurd hc h1, fun _ => ⟨g, hsta⟩⟩, fun hc => by omega⟩) (fun i mi s _ hne hp => ⟨fun hc => hp.1 (by omega), fun hc => hp.2 (by omega)⟩)
  rw [hw, hsta]; exact zero_grows
theorem step_t1 {K : Clu} (h : FC q K 0 1 0 0 (PT q 1)) : (K.ticks 1).1.over = true ∨ ((K.ticks 1).2 = true ∧ FC q (K.ticks 1).1 1 1 0 1 (PT q 2)) := by
  obtain ⟨m, hm, _, hp⟩ := h.ms 1 (by decide)
  obtain ⟨rfl, hw⟩ := hp (Nat.le_refl _)
  obtain ⟨e1, g, hsta⟩ := fm_first (q := q)
  obtain ⟨K1, hs, hb, hmem, hwas⟩ := fb_prop (k := 1) h.b rfl (ltr_p (v := 1) (by decide))
  rw [ticks_at hm, e1]
  rcases hb with ho | hb
  · left; rw [after_over]; exact (congrArg (fun r => r.1.over) hs).trans ho
  · right
    refine fc_after h (by decide) hm hs hb hmem hwas (fun _ => ?_) (fun _ => ⟨fun _ => ⟨fun _ => ⟨g hb.di, hsta⟩, fun hc => absurd rfl hc⟩, fun hc => by omega⟩) (fun i mi s _ hne hp => ⟨fun hc => hp.1 (by omega), fun hc => hp.2 (by omega)⟩)
    rw [hw, hsta]; exact zero_grows
theorem ticks_run {K : Clu} (h : Start q K) : (K.allTick 4 0).1.over = true ∨ ((K.allTick 4 0).2 = true ∧ StF q (K.allTick 4 0).1 0) := by
  have h0 : FC q K 0 1 0 0 (PT q 0) := ⟨h.b, fun k hk => ⟨_, (h.ms k hk).1, fun hc => by omega, fun _ => ⟨rfl, (h.ms k hk).2⟩⟩⟩
  obtain ⟨a1, a2⟩ := step_t (by decide) (by decide) h0
  rw [Clu.allTick]
  rw [if_pos a1, Clu.allTick]
  rcases step_t1 a2 with ho | ⟨b1, b2⟩
  · left
    split
    · exact over_back (allTick_over 2 2) ho
    · exact ho
  · rw [if_pos b1, Clu.allTick]
    obtain ⟨c1, c2⟩ := step_t (by decide) (by decide) b2
    rw [if_pos c1, Clu.allTick]
    obtain ⟨d1, d2⟩ := step_t (by decide) (by decide) c2
    rw [if_pos d1]
    right
    refine ⟨rfl, .inl ⟨rfl, ?_⟩⟩
    exact FC.imp d2 (fun k m s hk hp => hp.1 hk)
/-- Flow, plain. -/
theorem flow_all {K : Clu} (hq : ∀ j, ∀ c ∈ q j, c.size ≤ 16) (h : Start q K) (n : Nat) (hn : n < 3000) : ((K.allTick 4 0).1.flows 0 n).1.over = true ∨ ((K.allTick 4 0).2 = true ∧ ((K.allTick 4 0).1.flows 0 n).2.2 = true ∧ ((K.allTick 4 0).1.flows 0 n).2.1 = n ∧ ∃ N T, FEnd q ((K.allTick 4 0).1.flows 0 n).1 N T) := by
  rcases ticks_run h with ho | ⟨h1, h2⟩
  · exact .inl (over_back (flows_over n 0) ho)
  · rcases flows_run hq n 0 _ (by omega) h2 with ho | ⟨g1, g2, g3⟩
    · exact .inl ho
    · exact .inr ⟨h1, g1, by rw [g2]; omega, g3.fin (by omega)⟩
end Go.Proofs.YtkehpnobidendaaDoor

namespace Go.Proofs.YtkehpnobidendaaDoor
open Go.RowKit

/-- Nobody hears: so many rounds of ticks. -/
def quietK : Nat → Clu
  | 0 => Clu.begins (-1) 1
  | n + 1 => ((quietK n).allTick 4 0).1
def quietRun : Nat → Clu → Bool
  | 0, _ => true
  | n + 1, K => (K.allTick 4 0).2 && quietRun n (K.allTick 4 0).1
/-- What is asked in the end. -/
def recGood (v : Int) (K : Clu) : Bool := !K.over && (K.agree && ((List.range 4).all fun k => decide ((K.was k).log.length ≠ 0 ∧ v + 4 < (K.was k).view)))
/-- From a letter on, all that is sent comes, in order; from the sixtieth letter on all is as it is asked, whenever it ends. -/
def recRun (v : Int) : Nat → Nat → Nat → Clu → Bool
  | 0, _, _, _ => true
  | f + 1, n, at1, K => (decide (n < 60) || recGood v K) && match K.letters[at1]? with
    | none => false
    | some l => (K.goes l 4 0).2 && recRun v f (n + 1) (at1 + 1) (K.goes l 4 0).1
def recOk (s : Nat) : Bool :=
  let K := quietK (s + 1)
  decide (K.letters.length = 4 * (s + 1)) && (((List.range 4).all fun k => decide ((K.was k).log.length = 0 ∧ (K.was k).view = s + 2)) && (((K.letters.drop (4 * s)).all fun l => decide (l.msg.kind = 3 ∧ l.msg.view = s + 2 ∧ l.to = (s + 2) % 4)) && recRun (s + 2) 120 0 (4 * s) K))
theorem quiet_run : quietRun 30 (Clu.begins (-1) 1) = true := by decide +kernel
theorem quiet_at : ∀ (n j : Nat), quietRun n (quietK j) = true → ∀ i, i < n → ((quietK (j + i)).allTick 4 0).2 = true
  | 0, _, _, _, hi => by omega
  | n + 1, j, h, i, hi => by
    have h' : ((quietK j).allTick 4 0).2 = true ∧ quietRun n (quietK (j + 1)) = true := by
      unfold quietRun at h
      rw [Bool.and_eq_true] at h
      exact h
    cases i with
    | zero => exact h'.1
    | succ i => rw [show j + (i + 1) = (j + 1) + i by omega]; exact quiet_at n (j + 1) h'.2 i (by omega)
theorem quiet_step (i : Nat) (h : i < 30) : (quietK i).allTick 4 0 = (quietK (i + 1), true) := by
  have h1 := quiet_at 30 0 quiet_run i h
  rw [Nat.zero_add] at h1
  show _ = (((quietK i).allTick 4 0).1, true)
  rw [← h1]
theorem recRun_flows {v : Int} : ∀ (f n at1 : Nat) (K : Clu), recRun v f n at1 K = true → ∀ j, j < f → ∃ K', K.flows at1 j = (K', at1 + j, true) ∧ (60 ≤ n + j → recGood v K' = true)
  | 0, _, _, _, _, _, hj => by omega
  | f + 1, n, at1, K, h, j, hj => by
    unfold recRun at h
    rw [Bool.and_eq_true, Bool.or_eq_true, decide_eq_true_eq] at h
    obtain ⟨h1, h2⟩ := h
    cases j with
    | zero => exact ⟨K, rfl, fun hh => h1.resolve_left (by omega)⟩
    | succ j =>
      cases hl : K.letters[at1]? with
      | none => rw [hl] at h2; cases h2
      | some l =>
        rw [hl] at h2
        rw [Bool.and_eq_true] at h2
        obtain ⟨K', e1, e2⟩ := recRun_flows f (n + 1) (at1 + 1) _ h2.2 j (by omega)
        refine ⟨K', ?_, fun hh => e2 (by omega)⟩
        rw [Clu.flows, hl]
        show (if (K.goes l 4 0).2 then _ else _) = _
        rw [if_pos h2.1, e1, show at1 + 1 + j = at1 + (j + 1) by omega]
/-- All that the walk asks of the plain run. -/
theorem recOk_out {s : Nat} (h : recOk s = true) :
    (quietK (s + 1)).letters.length = 4 * (s + 1) ∧ (∀ k, k < 4 → ((quietK (s + 1)).was k).log.length = 0 ∧ ((quietK (s + 1)).was k).view = (s : Int) + 2) ∧
    (∀ (i : Nat) (hi : i < (quietK (s + 1)).letters.length), 4 * s ≤ i → ((quietK (s + 1)).letters[i]).msg.kind = 3 ∧ ((quietK (s + 1)).letters[i]).msg.view = (s : Int) + 2 ∧ ((quietK (s + 1)).letters[i]).to = ((s : Int) + 2) % 4) ∧
    ∀ b, b < 60 → ∃ K', (quietK (s + 1)).flows (4 * s) (60 + b) = (K', 4 * s + (60 + b), true) ∧ K'.over = false ∧ K'.agree = true ∧ ∀ k, k < 4 → (K'.was k).log.length ≠ 0 ∧ (s : Int) + 2 + 4 < (K'.was k).view := by
  unfold recOk at h
  dsimp only at h
  rw [Bool.and_eq_true, Bool.and_eq_true, Bool.and_eq_true, decide_eq_true_eq] at h
  obtain ⟨h1, h2, h3, h4⟩ := h
  rw [List.all_eq_true] at h2 h3
  refine ⟨h1, fun k hk => ?_, fun i hi h0 => ?_, fun b hb => ?_⟩
  · have := h2 k (by simpa using hk)
    rw [decide_eq_true_eq] at this
    exact this
  · have hm : (quietK (s + 1)).letters[i] ∈ (quietK (s + 1)).letters.drop (4 * s) := by
      rw [List.mem_drop_iff_getElem]
      exact ⟨i - 4 * s, by omega, by congr 1; omega⟩
    have := h3 _ hm
    rw [decide_eq_true_eq] at this
    exact this
  · obtain ⟨K', e1, e2⟩ := recRun_flows 120 0 (4 * s) _ h4 (60 + b) (by omega)
    have e3 := e2 (by omega)
    unfold recGood at e3
    rw [Bool.and_eq_true, Bool.and_eq_true, List.all_eq_true] at e3
    refine ⟨K', e1, by simpa using e3.1, e3.2.1, fun k hk => ?_⟩
    have := e3.2.2 k (by simpa using hk)
    rw [decide_eq_true_eq] at this
    exact this
end Go.Proofs.YtkehpnobidendaaDoor
