/- parleykeep's digits and command. parleykeep's Agree: the plain side: all that holds behind every step (GInv), and that it keeps: a tick, a letter that comes, a command, the liar's words. No program in it. parleykeep's Recovers: the plain side. No program in it. parleykeep's Recovers: true, whatever the input. parleykeep's lies: what the liar says is written down, and comes to those whom it tells. A new block of nineteen cells, written over. -/
import Derived.Test.YtkehpnobidendaaDoorM47
import Derived.Test.YtkehpnobidendaaDoorM37
import Derived.Test.YtkehpnobidendaaDoorM30
namespace Go.Proofs.YtkehpnobidendaaDoor
open Go.RowKit

set_option maxRecDepth 100000 in
set_option maxHeartbeats 400000 in
theorem kdigits (u : Nat) (hu : u ≤ 9223372036854775807) (w : World) :
    Calls Tryd.prog 37 #[.int .i64 u] w fun e w' => e = .returned (.string ⟨(Lib.decDigits u).toArray⟩) ∧ Below w.heap.size w w' := by
  have h20 := digits_len u (by omega)
  have H20 : Hid ((Lib.decDigits u).length ≤ 20) := h20
  clear h20
  go_enter Tryd.func37, Tryd.ntmps37
  go_wp2
  go_loopw [0, 3] (fun n s wr => ∃ (m : Nat) (t : List UInt8), m ≤ u ∧ n = .int .i64 m ∧ s = .string ⟨t.toArray⟩ ∧ Hid (dd m t = Lib.decDigits u) ∧ Below w.heap.size w wr) (fun n s _ => 2 * (intOf n).toNat + empOf s)
  case atStart => exact ⟨u, [], Nat.le_refl _, rfl, rfl, by show dd u [] = _; rw [dd_go _ _ (by simp)]; simp, Below.refl _ _⟩
  case round =>
    obtain ⟨m, t, hm, rfl, rfl, hd, hb⟩ := hrel
    have hc := conv_one wr m
    have hlen : t.length ≤ 20 := by have := dd_len m t; rw [hd.out] at this; exact Nat.le_trans this H20.out
    have hm0' : (0 : Int) ≤ (m : Int) := by omega
    have hm1' : (m : Int) ≤ 9223372036854775807 := by omega
    have ht1 : (m : Int).tmod 10 = (m : Int) % 10 := Int.tmod_eq_emod_of_nonneg hm0'
    have ht2 : (m : Int).tdiv 10 = ((m / 10 : Nat) : Int) := by rw [Int.tdiv_eq_ediv_of_nonneg hm0']; omega
    by_cases hlt : 0 < m
    · have HS : Hid (dd (m / 10) (dgt m :: t) = Lib.decDigits u) := by
        show dd (m / 10) (dgt m :: t) = Lib.decDigits u
        rw [dd_step, ← dd_go m t (by omega)]; exact hd.out
      have hmI : (0 : Int) < (m : Int) := by omega
      go_wp2
      go_roundw
      case rel => exact ⟨m / 10, dgt m :: t, by omega, by first | rfl | go_num, str_cons _ _, HS, hb.alloc hb.size _⟩
      case measure => rw [str_cons, empOf_cons]; simp [intOf]; omega
    · have hm0 : m = 0 := by omega
      subst hm0
      cases t with
      | nil =>
        have HS : Hid (dd 0 [dgt 0] = Lib.decDigits u) := by
          show dd 0 [dgt 0] = Lib.decDigits u
          have := dd_step 0 []
          rw [this, ← dd_go 0 [] (by simp)]; exact hd.out
        have hc0 : (convert 104 9 (.slice (some ⟨wr.heap.size, 0, none⟩) 1 1)).run Tryd.prog (wr.alloc (.cells #[.int .u8 48] 5)) = .ok (.string ⟨#[dgt 0]⟩) (wr.alloc (.cells #[.int .u8 48] 5)) := conv_one wr 0
        clear hc
        go_wp2
        go_roundw
        case rel => exact ⟨0, [dgt 0], by omega, by go_num, str_cons _ _, HS, hb.alloc hb.size _⟩
        case measure => rw [str_cons, empOf_cons, show empOf (.string ⟨([] : List UInt8).toArray⟩) = 1 from rfl]; simp [intOf]
      | cons c t =>
        have HE : Hid (c :: t = Lib.decDigits u) := by
          show c :: t = Lib.decDigits u
          rw [← hd.out, dd_end _ (by simp)]
        go_wp2
        go_ret
        exact ⟨by rw [← HE.out]; rfl, hb⟩
/-- The text of a command that was never given. -/
def cmdText (n : Nat) : ByteArray := ⟨(99 :: Lib.decDigits n).toArray⟩
theorem KMem.count {w : World} {p : Nat} {S : Nat → Prop} {ps : List (Option Nat)} {K : Clu} (h : KMem w p S ps K) (c : Int) : KMem (w.setCell ⟨p, 21, none⟩ (.int .i64 c)) p S ps { K with count := c } := h.set _ 21 _ (fun _ _ _ _ _ _ _ _ _ => rfl) rfl
set_option maxRecDepth 100000 in
set_option maxHeartbeats 1000000 in
theorem kcommand (w : World) (p : Nat) (S : Nat → Prop) (ps : List (Option Nat)) (K : Clu) (h : KMem w p S ps K) (n : Nat) (hc : K.count = (n : Int)) (hn : n ≤ 9000000000000000000) :
    Calls Tryd.prog 20 #[.pointer (some ⟨p, 0, none⟩)] w fun e w' => e = .returned (.string (cmdText (n + 1))) ∧ KMem w' p S ps { K with count := ((n + 1 : Nat) : Int) } ∧ Fr S w w' := by
  have HM : Hid (KMem w p S ps K) := h
  have q1 : w.cell? ⟨p, 21, none⟩ = some (.int .i64 (n : Int)) := by
    obtain ⟨vm, vl, vc, vv, l0, l1, l2, l3, vb, g1⟩ := h.ex
    rw [← hc]
    exact cell_at g1.box 21
  have fz := h.fz 21
  have hn0 : (0 : Int) ≤ (n : Int) := by omega
  have hn1 : (n : Int) ≤ 9000000000000000000 := by omega
  have hl : (Lib.decDigits (n + 1)).length ≤ 20 := digits_len (n + 1) (by omega)
  have HD : Hid (∀ W, Calls Tryd.prog 37 #[.int .i64 ((n : Int) + 1)] W fun e w' => e = .returned (.string ⟨(Lib.decDigits (n + 1)).toArray⟩) ∧ Below W.heap.size W w') := fun W => kdigits (n + 1) (by omega) W
  have HM1 : Hid (KMem (w.setCell ⟨p, 21, none⟩ (.int .i64 ((n : Int) + 1))) p S ps { K with count := ((n + 1 : Nat) : Int) }) := h.count ((n + 1 : Nat) : Int)
  have HF1 : Hid (Fr S w (w.setCell ⟨p, 21, none⟩ (.int .i64 ((n : Int) + 1)))) := Fr.setCell w h.sp _
  clear h hc
  go_enter Tryd.func20, Tryd.ntmps20
  go_upto_region 2 with fail
  obtain ⟨W, hW⟩ : ∃ W, W = w.setCell ⟨p, 21, none⟩ (.int .i64 ((n : Int) + 1)) := ⟨_, rfl⟩
  rw [← hW] at HM1 HF1 ⊢
  have q2 : W.cell? ⟨p, 21, none⟩ = some (.int .i64 ((n : Int) + 1)) := by
    obtain ⟨vm, vl, vc, vv, l0, l1, l2, l3, vb, g1⟩ := HM1.out.ex
    exact cell_at g1.box 21
  clear hW q1 fz
  go_wp2_with (go_at_call 37; refine (HD.out _).mono ?_; rintro e w3 ⟨rfl, hb3⟩)
  go_ret
  exact ⟨rfl, HM1.out.below hb3, HF1.out.trans (Fr.of_below hb3) (fun _ h => .inl h)⟩
end Go.Proofs.YtkehpnobidendaaDoor

namespace Go.Proofs.YtkehpnobidendaaDoor
open Go.RowKit

def wtO : Option Mem → Nat
  | none => 0
  | some m => m.wt
def Clu.sumW (K : Clu) : Nat := wtO (K.memAt 0) + wtO (K.memAt 1) + wtO (K.memAt 2) + wtO (K.memAt 3)
structure GMem (m : Mem) (t : Nat) : Prop where
  b : MBnd m
  iv : Inv m
  i2 : Inv2 m
  kn : Kn m
  w : m.waited ≤ t
structure GInv (K : Clu) (t : Nat) : Prop where
  a : AInv K
  ok : K.Ok
  lq : LQ K
  ll : K.letters.length ≤ 3000 + K.sumW
  lt : ∀ l ∈ K.letters, l.Ok
  mb : ∀ k m, k < 4 → K.memAt k = some m → GMem m t
  c0 : 0 ≤ K.count
  c1 : K.count ≤ t
  mn : ∀ k : Nat, k < 4 → (k : Int) ≠ K.liar → ∃ m, K.memAt k = some m
  cn : 1 ≤ K.certs.length
def views : List Int := (List.range 1000).map fun (i : Nat) => (i : Int) + 1
theorem mem_views {v : Int} (h : 1 ≤ v ∧ v ≤ 1000) : v ∈ views := by
  unfold views
  rw [List.mem_map]
  exact ⟨(v - 1).toNat, by simp; omega, by omega⟩
theorem views_len : views.length = 1000 := by simp [views]
theorem nodup_filter {l : List Int} (h : l.Nodup) (v : Int) : (l.filter fun t => t == v).length ≤ 4 := by
  induction l with
  | nil => simp
  | cons a r ih =>
    obtain ⟨h1, h2⟩ := List.nodup_cons.1 h
    simp only [List.filter_cons]
    split
    · rename_i hv
      have e : a = v := by simpa using hv
      have : (r.filter fun t => t == v) = [] := by
        rw [List.filter_eq_nil_iff]
        intro x hx hxv
        have : x = v := by simpa using hxv
        rw [this, ← e] at hx
        exact h1 hx
      rw [this]; simp
    · exact ih h2
theorem GMem.prop {m : Mem} {t : Nat} (h : GMem m t) : m.proposed.length ≤ 4000 := by
  have := len_keys (fun v : Int => v) views m.proposed (fun v hv => mem_views (h.b.pv v hv)) (fun v => nodup_filter h.b.pn v)
  rw [views_len] at this
  exact this
theorem cnt_le4 (r : Rl) : r.cnt ≤ 4 := by
  unfold Rl.cnt
  have : ∀ b : Bool, b.toNat ≤ 1 := fun b => by cases b <;> decide
  have a := this r.a; have b := this r.b; have c := this r.c; have d := this r.d
  omega
theorem GMem.ents {m : Mem} {t : Nat} (h : GMem m t) : m.enters.length ≤ 4000 := by
  have := len_keys (fun x : Tk => x.view) views m.enters (fun x hx => mem_views (h.b.ev x hx)) (fun v => by
    have h1 := h.i2.eo.e v
    have h2 := cnt_le4 (rl (m.entered v))
    rw [h1] at h2
    exact h2)
  rw [views_len] at this
  exact this
theorem GMem.vots {m : Mem} {t : Nat} (h : GMem m t) : m.votes.length ≤ 4 * m.blocks.length := by
  have := len_keys (fun x : Tk => (x.n : Int)) (m.blocks.map fun y => (y.1 : Int)) m.votes (fun x hx => by
    have h1 := mem_num (h.i2.vs x hx).1
    obtain ⟨y, hy, he⟩ := List.mem_map.1 h1
    exact List.mem_map.2 ⟨y, hy, by rw [he]⟩) (fun v => by
    by_cases hv : 0 ≤ v
    · obtain ⟨n, rfl⟩ : ∃ n : Nat, v = (n : Int) := ⟨v.toNat, by omega⟩
      have h1 := h.i2.vo n
      have h2 := cnt_le4 (rl (m.votesFor n))
      rw [h1] at h2
      have e : (m.votes.filter fun x => (x.n : Int) == (n : Int)) = m.votesFor n := by
        unfold Mem.votesFor
        congr 1
        funext x
        by_cases hx : x.n = n
        · rw [hx]; simp
        · have h5 : ((x.n : Int) == (n : Int)) = false := beq_eq_false_iff_ne.2 (by omega)
          have h6 : (x.n == n) = false := beq_eq_false_iff_ne.2 hx
          rw [h5, h6]
      rw [e]; exact h2
    · have e : (m.votes.filter fun x => (x.n : Int) == v) = [] := by
        rw [List.filter_eq_nil_iff]
        intro x _ hx
        have : (x.n : Int) = v := by simpa using hx
        omega
      rw [e]; simp)
  simpa using this
theorem GInv.wt {K : Clu} {t : Nat} (h : GInv K t) {k : Nat} (hk : k < 4) : wtO (K.memAt k) ≤ 6000 := by
  cases hm : K.memAt k with
  | none => simp [wtO]
  | some m =>
    have g := h.mb k m hk hm
    have h1 := g.prop
    have h2 := g.iv.v0; have h3 := g.iv.v1; have h4 := g.iv.t0; have h5 := g.iv.t1
    show m.view.toNat + m.voted.toNat + m.proposed.length ≤ 6000
    omega
theorem GInv.letters {K : Clu} {t : Nat} (h : GInv K t) : K.letters.length ≤ 27000 := by
  have h0 := h.wt (k := 0) (by omega); have h1 := h.wt (k := 1) (by omega); have h2 := h.wt (k := 2) (by omega); have h3 := h.wt (k := 3) (by omega)
  have := h.ll
  unfold Clu.sumW at this
  omega
theorem firstOf_mem {n : Nat} : ∀ {l : List Blk} {o : Blk}, firstOf n l = some o → n ∈ l.map Blk.num
  | [], _, h => by cases h
  | a :: r, o, h => by
    unfold firstOf at h
    split at h
    · rename_i he; simp [he]
    · exact List.mem_cons_of_mem _ (firstOf_mem h)
theorem GInv.kok {K : Clu} {t : Nat} (h : GInv K t) (ht : t ≤ 20000000000000) : KOk K 200000 := by
  have hl := h.letters
  have hq := h.lq
  have hbl : ∀ k m, k < 4 → K.memAt k = some m → m.blocks.length ≤ 27002 := fun k m hk hm => by
    have g := h.mb k m hk hm
    have hM := (h.a.ms k m hk hm).2.2.1
    have h1 := len_of_sub (l := m.blocks.map (·.1)) (r := 0 :: K.blocks.map Blk.num) g.b.bn (fun n hn => by
      by_cases h0 : n = 0
      · simp [h0]
      · refine List.mem_cons_of_mem _ ?_
        cases hf : find n m.blocks with
        | none => exact absurd hn (find_none (by rw [hf]; rfl))
        | some b =>
          obtain ⟨o, ho, _⟩ := (hM.at1 n b hf h0).ex
          exact firstOf_mem ho)
    have h2 := hq.bl
    simp only [List.length_map, List.length_cons] at h1
    omega
  refine ⟨h.ok, hq.mono (by omega), h.lt, h.a.ml, fun m hm => ?_, fun k => ?_⟩
  · obtain ⟨k, hk, he⟩ := List.getElem_of_mem hm
    have hk4 : k < 4 := by rw [← h.a.ml]; exact hk
    have hat : K.memAt k = some m := by
      unfold Clu.memAt
      rw [List.getD_eq_getElem?_getD, List.getElem?_eq_getElem hk, he]; rfl
    have g := h.mb k m hk4 hat
    have h1 := hbl k m hk4 hat
    have h2 := g.prop; have h3 := g.ents; have h4 := g.vots; have h5 := g.w
    exact ⟨g.iv, g.i2, by omega, by omega, by omega, by omega, g.kn⟩
  · have key : ∀ k, k < 4 → (K.was k).log.length ≤ 200000 := fun k hk => by
      cases hm : K.memAt k with
      | none => rw [h.a.wz k hk hm]; simp
      | some m =>
        rcases (h.a.ms k m hk hm).2.2.2.2.lg with e | e
        · rw [e]; simp
        · rw [e]
          have h1 := log_len (h.mb k m hk hm).iv
          have h2 := hbl k m hk hm
          show (m.log.map _).length ≤ _
          rw [List.length_map]; omega
    by_cases hk : k < 4
    · exact key k hk
    · have e : K.was k = K.was 3 := by unfold Clu.was; rw [if_neg (by omega), if_neg (by omega), if_neg (by omega)]; rfl
      rw [e]; exact key 3 (by omega)
theorem GInv.msafe {K : Clu} {t : Nat} (h : GInv K t) : ∀ k m, k < 4 → K.memAt k = some m → MSafe m := fun k m hk hm => ⟨(h.mb k m hk hm).iv, (h.mb k m hk hm).i2.vo, (h.mb k m hk hm).i2.up⟩
theorem GInv.mono {K : Clu} {t u : Nat} (h : GInv K t) (hu : t ≤ u) : GInv K u := ⟨h.a, h.ok, h.lq, h.ll, h.lt, fun k m hk hm => ⟨(h.mb k m hk hm).b, (h.mb k m hk hm).iv, (h.mb k m hk hm).i2, (h.mb k m hk hm).kn, by have := (h.mb k m hk hm).w; omega⟩, h.c0, by have := h.c1; omega, h.mn, h.cn⟩
theorem GInv.agree {K : Clu} {t : Nat} (h : GInv K t) : K.agree = true := agree_yes (fun i k hi hk => ainv_agree h.a h.msafe hi (by omega))
theorem send1_certs (K : Clu) (f : Int) (l : Ltr) : K.certs.length ≤ (K.send1 f l).1.certs.length := by
  by_cases hb : l.msg.fro ≠ f ∨ l.to < -1 ∨ 3 < l.to
  · rw [send1_bad hb]; exact Nat.le_refl _
  by_cases hp : l.msg.kind = 1
  · rw [send1_prop hb hp]
    show K.certs.length ≤ ((K.addL l).meets l.msg.block).certs.length
    rw [(meets_same (K.addL l) l.msg.block).2.2.1]; exact Nat.le_refl _
  by_cases h2k : l.msg.kind = 2
  · cases ha : K.voted.any (fun t => t.fro == f && t.view == l.msg.view) with
    | true => rw [send1_twice hb h2k ha]; exact Nat.le_refl _
    | false =>
      rw [send1_vote hb h2k ha]
      dsimp only
      split
      · simp [Clu.addC, Clu.addV, Clu.addL]
      · exact Nat.le_refl _
  · rw [send1_other hb hp h2k]; exact Nat.le_refl _
theorem sends_certs (f : Int) : ∀ (ls : List Ltr) (K : Clu), K.certs.length ≤ (K.sends f ls).1.certs.length
  | [], _ => Nat.le_refl _
  | l :: r, K => by
    unfold Clu.sends
    split
    · exact Nat.le_trans (send1_certs K f l) (sends_certs f r _)
    · exact send1_certs K f l
/-- What a member's call leaves. -/
theorem after_ginv {K : Clu} {t u : Nat} (h : GInv K t) (hu : t ≤ u) {k : Nat} {m : Mem} (hk : k < 4) (hm : K.memAt k = some m) {m1 : Mem} {o1 : List Ltr} (h1 : MInv0 K m1) (r1 : Rises m m1) (hs : Sent1 K m m1 k o1) (hover : (K.after k m1.ends.1 (o1 ++ m1.ends.2)).1.over = false)
    (i1 : Inv m1) (b1 : MBnd m1) (hw : o1.length + m.wt ≤ m1.wt) (hi2 : Inv2 m1.ends.1) (hkn : Kn m1.ends.1) (hwt : m1.waited ≤ u) (ho : ∀ l ∈ o1 ++ m1.ends.2, l.Ok) :
    GInv (K.after k m1.ends.1 (o1 ++ m1.ends.2)).1 u ∧ (K.after k m1.ends.1 (o1 ++ m1.ends.2)).2 = true := by
  obtain ⟨hA, hT⟩ := after_ainv h.a hk hm (h.msafe k m hk hm) h1 r1 hs hover
  refine ⟨?_, hT⟩
  obtain ⟨e1, e2, e3, e4⟩ := mbnd_ends b1 i1
  obtain ⟨s1, s2, s3⟩ := sends_lq (k : Int) ⟨by omega, by omega⟩ (o1 ++ m1.ends.2) K h.ok h.lq ho
  have hsent := sends_sent (k : Int) ⟨by omega, by omega⟩ (o1 ++ m1.ends.2) K (K.letters.length + 1) h.ok h.lq ho
  have hwm : (o1 ++ m1.ends.2).length + m.wt ≤ m1.ends.1.wt := by
    unfold Mem.wt at hw ⊢
    rw [e2, e3, e4, List.length_append]
    omega
  have hcl := sends_certs (k : Int) (o1 ++ m1.ends.2) K
  rw [after_is] at hA ⊢
  dsimp only at hA ⊢
  generalize K.sends k (o1 ++ m1.ends.2) = R at hA s1 s2 s3 hsent hcl ⊢
  obtain ⟨K2, b2⟩ := R
  dsimp only at hA s1 s2 s3 hsent hcl ⊢
  generalize hm' : m1.ends.1 = m' at *
  have hml : K2.mem = K.mem := hsent.ck.m
  have hsame : SameC K2 ((K2.setMem k m').setWas k m'.sta) := by
    have a := setMem_same K2 k m'
    have b := setWas_same (K2.setMem k m') k m'.sta
    exact ⟨b.li.trans a.li, b.vt.trans a.vt, b.bl.trans a.bl, b.cr.trans a.cr, b.lt.trans a.lt⟩
  have hcount : ((K2.setMem k m').setWas k m'.sta).count = K.count := by
    have : ∀ (X : Clu) (s : Sta), (X.setWas k s).count = X.count := fun X s => by
      unfold Clu.setWas
      split
      · rfl
      · split
        · rfl
        · split <;> rfl
    rw [this]
    exact hsent.ck.c
  have hmem : ∀ i, ((K2.setMem k m').setWas k m'.sta).memAt i = if i = k then some m' else K.memAt i := fun i => by
    have e1 : ((K2.setMem k m').setWas k m'.sta).memAt i = (K2.setMem k m').memAt i := by unfold Clu.memAt; rw [(setWas_mem _ _ _).1]
    rw [e1, memAt_set' (by rw [hml, h.a.ml]; exact hk)]
    split
    · rfl
    · unfold Clu.memAt; rw [hml]
  have hsum : K.sumW + (o1 ++ m1.ends.2).length ≤ ((K2.setMem k m').setWas k m'.sta).sumW := by
    unfold Clu.sumW
    rw [hmem, hmem, hmem, hmem]
    have hwk : wtO (K.memAt k) = m.wt := by rw [hm]; rfl
    rcases (by omega : k = 0 ∨ k = 1 ∨ k = 2 ∨ k = 3) with rfl | rfl | rfl | rfl
    · rw [if_pos rfl, if_neg (by omega), if_neg (by omega), if_neg (by omega), hwk]; show _ ≤ m'.wt + _ + _ + _; omega
    · rw [if_neg (by omega), if_pos rfl, if_neg (by omega), if_neg (by omega), hwk]; show _ ≤ _ + m'.wt + _ + _; omega
    · rw [if_neg (by omega), if_neg (by omega), if_pos rfl, if_neg (by omega), hwk]; show _ ≤ _ + _ + m'.wt + _; omega
    · rw [if_neg (by omega), if_neg (by omega), if_neg (by omega), if_pos rfl, hwk]; show _ ≤ _ + _ + _ + m'.wt; omega
  refine ⟨hA, ?_, ?_, ?_, ?_, ?_, ?_, ?_, ?_, by rw [hsame.cr]; exact Nat.le_trans h.cn hcl⟩
  · exact ⟨by rw [hsame.bl]; exact s1.bl, by rw [hsame.vt]; exact s1.vt, by rw [hsame.li]; exact s1.l0, by rw [hsame.li]; exact s1.l1⟩
  · unfold LQ
    rw [hsame.lt]
    exact ⟨by rw [hsame.lt]; exact s2.lt, by rw [hsame.cr]; exact s2.ct, by rw [hsame.vt]; exact s2.vt, by rw [hsame.bl]; exact s2.bl⟩
  · rw [hsame.lt]
    have := h.ll
    omega
  · intro l hl
    rw [hsame.lt] at hl
    rcases hsent.lt l hl with h2 | h2
    · exact h.lt l h2
    · exact ho l h2
  · intro i mi hi hmi
    rw [hmem] at hmi
    by_cases hik : i = k
    · rw [if_pos hik] at hmi
      obtain rfl := Option.some.inj hmi
      refine ⟨e1, ?_, hi2, hkn, ?_⟩
      · rw [← hm']; exact inv_ends i1
      · have := (kends_lists m1).2.2.1
        rw [hm'] at this
        rw [this]; exact hwt
    · rw [if_neg hik] at hmi
      have g := h.mb i mi hi hmi
      exact ⟨g.b, g.iv, g.i2, g.kn, by have := g.w; omega⟩
  · rw [hcount]; exact h.c0
  · rw [hcount]; have := h.c1; omega
  · intro i hi hil
    rw [hmem]
    by_cases hik : i = k
    · rw [if_pos hik]; exact ⟨_, rfl⟩
    · rw [if_neg hik]
      exact h.mn i hi (by rw [hsame.li, hsent.ck.l] at hil; exact hil)
/-- A message comes to a member. -/
theorem comes_ginv {K : Clu} {t : Nat} (h : GInv K t) (ht : t ≤ 20000000000000) {k : Nat} (hk : k < 4) {x : Msg} (hx : x.Ok) (hB : MsgB K x) (hover : (K.comes k x).1.over = false) : GInv (K.comes k x).1 t ∧ (K.comes k x).2 = true := by
  unfold Clu.comes at hover ⊢
  cases hm : K.memAt k with
  | none => exact ⟨h, rfl⟩
  | some m =>
    rw [hm] at hover
    dsimp only at hover ⊢
    obtain ⟨hid, hkl, hM, hvo, hwas⟩ := h.a.ms k m hk hm
    have g := h.mb k m hk hm
    have hmo := (h.kok ht).at' hm
    have htk := took_takes h.a.c.lie h.a.c.vg hM g.iv g.i2.vo x hx hB
    have hmh := mok_handle hmo x hx
    obtain ⟨b1, b2⟩ := mbnd_takes g.b x
    refine after_ginv h (Nat.le_refl t) hk hm (m1 := (m.takes x).1) (o1 := (m.takes x).2.1) htk.inv htk.rise ?_ hover (inv_takes g.iv x hx) b1 ?_ hmh.i2 hmh.kn ?_ (handle_ok g.iv x hx)
    · rcases htk.out with h1 | ⟨h1, h2⟩
      · rw [h1]; exact .no
      · rw [h1]
        exact .vote _ rfl hid ⟨by show -1 ≤ (x.view + 1) % 4; omega, by show (x.view + 1) % 4 ≤ 3; omega⟩ h2
    · have r1 := htk.rise.vo; have r2 := htk.rise.vw
      have v0 := g.iv.t0; have v1 := g.iv.v0
      unfold Mem.wt
      rw [b2]
      rcases htk.out with h1 | ⟨h1, h2⟩
      · rw [h1]; simp only [List.length_nil]; omega
      · rw [h1]
        have h3 := h2.fresh; have h4 := h2.vo
        simp only [List.length_cons, List.length_nil]; omega
    · have := (takes_more m x).2
      have h5 := g.w
      rcases this with e | e
      · rw [e]; omega
      · rw [e]; omega
/-- A member ticks. -/
theorem ticks_ginv {K : Clu} {t : Nat} (h : GInv K t) (ht : t ≤ 20000000000000) {k : Nat} (hk : k < 4) (hover : (K.ticks k).1.over = false) : GInv (K.ticks k).1 (t + 1) ∧ (K.ticks k).2 = true := by
  unfold Clu.ticks at hover ⊢
  cases hm : K.memAt k with
  | none => exact ⟨h.mono (by omega), rfl⟩
  | some m =>
    rw [hm] at hover
    dsimp only at hover ⊢
    obtain ⟨hid, hkl, hM, hvo, hwas⟩ := h.a.ms k m hk hm
    have g := h.mb k m hk hm
    have hmo := (h.kok ht).at' hm
    have hmt := mok_tick hmo
    obtain ⟨b1, b2, b3, b4⟩ := mbnd_wait g.b
    refine after_ginv h (Nat.le_succ t) hk hm (m1 := m.wait.1) (o1 := m.wait.2) (minv_wait hM) rises_wait ?_ hover (inv_wait g.iv) b1 ?_ hmt.i2 hmt.kn ?_ (tick_ok g.iv)
    · unfold Mem.wait
      dsimp only
      split
      · exact .enter _ rfl hid ⟨by show -1 ≤ (m.view + 1) % 4; omega, by show (m.view + 1) % 4 ≤ 3; omega⟩ hM.hi
      · exact .no
    · have v1 := g.iv.v0
      unfold Mem.wt
      rw [b2, b3, b4]
      omega
    · have h5 := g.w
      have h6 := g.iv.w0
      unfold Mem.wait
      dsimp only
      split
      · show (0 : Int) ≤ _; omega
      · show m.waited + 1 ≤ _; omega
/-! What was over stays over; what was met stays met. -/
theorem meets_over {K : Clu} {b : Blk} (h : (K.meets b).over = false) : K.over = false := (meets_same K b).2.2.2.2.2 h
theorem send1_over {K : Clu} {f : Int} {l : Ltr} (h : (K.send1 f l).1.over = false) : K.over = false := by
  by_cases hb : l.msg.fro ≠ f ∨ l.to < -1 ∨ 3 < l.to
  · rw [send1_bad hb] at h; exact h
  by_cases hp : l.msg.kind = 1
  · rw [send1_prop hb hp] at h; exact meets_over (K := K.addL l) h
  by_cases h2k : l.msg.kind = 2
  · cases ha : K.voted.any (fun t => t.fro == f && t.view == l.msg.view) with
    | true => rw [send1_twice hb h2k ha] at h; exact h
    | false =>
      rw [send1_vote hb h2k ha] at h
      dsimp only at h
      split at h <;> exact h
  · rw [send1_other hb hp h2k] at h; exact h
theorem sends_over (f : Int) : ∀ (ls : List Ltr) {K : Clu}, (K.sends f ls).1.over = false → K.over = false
  | [], _, h => h
  | l :: r, K, h => by
    unfold Clu.sends at h
    split at h
    · exact send1_over (sends_over f r h)
    · exact send1_over h
theorem comes_over {K : Clu} {k : Nat} {x : Msg} (h : (K.comes k x).1.over = false) : K.over = false := by
  unfold Clu.comes at h
  cases hm : K.memAt k with
  | none => rw [hm] at h; exact h
  | some m =>
    rw [hm] at h
    dsimp only at h
    rw [after_is] at h
    dsimp only at h
    rw [(setWas_mem _ _ _).2] at h
    exact sends_over _ _ h
theorem send1_ext (K : Clu) (f : Int) (l : Ltr) : KExt K (K.send1 f l).1 := by
  by_cases hb : l.msg.fro ≠ f ∨ l.to < -1 ∨ 3 < l.to
  · rw [send1_bad hb]; exact KExt.refl K
  by_cases hp : l.msg.kind = 1
  · rw [send1_prop hb hp]
    exact KExt.trans (b := K.addL l) ⟨rfl, fun _ h => h, fun _ _ h => h⟩ (meets_ext _)
  by_cases h2k : l.msg.kind = 2
  · cases ha : K.voted.any (fun t => t.fro == f && t.view == l.msg.view) with
    | true => rw [send1_twice hb h2k ha]; exact ⟨rfl, fun _ h => h, fun _ _ h => h⟩
    | false =>
      rw [send1_vote hb h2k ha]
      dsimp only
      split
      · exact ⟨rfl, fun _ h => List.mem_append_left _ h, fun _ _ h => h⟩
      · exact ⟨rfl, fun _ h => List.mem_append_left _ h, fun _ _ h => h⟩
  · rw [send1_other hb hp h2k]; exact ⟨rfl, fun _ h => h, fun _ _ h => h⟩
theorem sends_ext (f : Int) : ∀ (ls : List Ltr) (K : Clu), KExt K (K.sends f ls).1
  | [], K => KExt.refl K
  | l :: r, K => by
    unfold Clu.sends
    split
    · exact (send1_ext K f l).trans (sends_ext f r _)
    · exact send1_ext K f l
theorem comes_ext (K : Clu) (k : Nat) (x : Msg) : KExt K (K.comes k x).1 := by
  unfold Clu.comes
  cases hm : K.memAt k with
  | none => exact KExt.refl K
  | some m =>
    dsimp only
    rw [after_is]
    have a := setMem_same (K.sends k (m.handle x).2.1).1 k (m.handle x).1
    have b := setWas_same ((K.sends k (m.handle x).2.1).1.setMem k (m.handle x).1) k (m.handle x).1.sta
    exact (sends_ext _ _ K).trans (a.ext.trans b.ext)
/-! The liar. -/
/-- A message comes to those of the members k, k + 1 .. whom the liar tells it. -/
def Clu.tells (K : Clu) (x : Msg) (go : Nat → Bool) : Nat → Nat → Bool → Clu × Bool
  | 0, _, ok => (K, ok)
  | f + 1, k, ok => if go k then (K.comes k x).1.tells x go f (k + 1) (ok && (K.comes k x).2) else K.tells x go f (k + 1) ok
theorem tells_over {x : Msg} {go : Nat → Bool} : ∀ (f k : Nat) (ok : Bool) {K : Clu}, (K.tells x go f k ok).1.over = false → K.over = false
  | 0, _, _, _, h => h
  | f + 1, k, ok, K, h => by
    unfold Clu.tells at h
    split at h
    · exact comes_over (tells_over f (k + 1) _ h)
    · exact tells_over f (k + 1) ok h
theorem tells_ginv {x : Msg} {go : Nat → Bool} (hx : x.Ok) : ∀ (f k : Nat) (ok : Bool) {K : Clu} {t : Nat}, f + k = 4 → GInv K t → t ≤ 20000000000000 → MsgB K x → (K.tells x go f k ok).1.over = false → GInv (K.tells x go f k ok).1 t ∧ (K.tells x go f k ok).2 = ok
  | 0, _, _, _, _, _, h, _, _, _ => ⟨h, rfl⟩
  | f + 1, k, ok, K, t, hfk, h, ht, hB, ho => by
    unfold Clu.tells at ho ⊢
    split
    · rename_i hg
      rw [if_pos hg] at ho
      have ho1 := tells_over f (k + 1) _ ho
      obtain ⟨h1, h2⟩ := comes_ginv h ht (by omega) hx hB ho1
      rw [h2, Bool.and_true] at ho ⊢
      exact tells_ginv hx f (k + 1) ok (by omega) h1 ht ((comes_ext K k x).msgB hB) ho
    · rename_i hg
      rw [if_neg hg] at ho
      exact tells_ginv hx f (k + 1) ok (by omega) h ht hB ho
theorem said_ginv {K K' : Clu} {t u : Nat} (h : GInv K t) (hu : t ≤ u) (hlt : K.letters.length < 3000) (l : Ltr) (hl : K'.letters = K.letters ++ [l]) (hlo : l.Ok) (hm : K'.mem = K.mem) (hw : ∀ i, K'.was i = K.was i) (hv : K'.voted = K.voted) (hc : K'.certs = K.certs) (hb : K'.blocks.length ≤ K.blocks.length + 1) (hbo : ∀ o ∈ K'.blocks, o.Ok) (hE : KExt K K') (hC : CInv K') (h0 : 0 ≤ K'.count) (h1 : K'.count ≤ u) : GInv K' u := by
  have hat : ∀ i, K'.memAt i = K.memAt i := fun i => by unfold Clu.memAt; rw [hm]
  have hs : K'.sumW = K.sumW := by unfold Clu.sumW; rw [hat, hat, hat, hat]
  refine ⟨⟨hC, by unfold PwK; rw [hv]; exact h.a.pw, by rw [hm]; exact h.a.ml, fun k m hk hkm => ?_, fun k hk hkm => ?_⟩, ⟨hbo, by rw [hv]; exact h.ok.vt, by rw [hE.li]; exact h.ok.l0, by rw [hE.li]; exact h.ok.l1⟩, ?_, ?_, fun x hx => ?_, fun k m hk hkm => ?_, h0, h1, fun k hk hkl => ?_, by rw [hc]; exact h.cn⟩
  · rw [hat] at hkm
    obtain ⟨a1, a2, a3, a4, a5⟩ := h.a.ms k m hk hkm
    refine ⟨a1, by rw [hE.li]; exact a2, hE.minv h.a.c.vg a3, fun x hx hf => ?_, by rw [hw]; exact a5⟩
    rw [hv] at hx
    have := a4 x hx hf
    have hg := h.a.c.vg x hx
    rw [hE.gu (.inr hg.mt), hE.gu (hg.bk.zm h.a.c.vg), hE.gv ((hg.bk.up h.a.c.vg).zm h.a.c.vg)]
    exact this
  · rw [hat] at hkm
    rw [hw]
    exact h.a.wz k hk hkm
  · have hq := h.lq
    unfold LQ
    rw [hl]
    have e : (K.letters ++ [l]).length = K.letters.length + 1 := by simp
    rw [e]
    exact ⟨by rw [hl, e]; omega, by rw [hc]; have := hq.ct; omega, by rw [hv]; have := hq.vt; omega, by have := hq.bl; omega⟩
  · rw [hl]; simp only [List.length_append, List.length_cons, List.length_nil]; omega
  · rw [hl] at hx
    rcases List.mem_append.1 hx with h2 | h2
    · exact h.lt x h2
    · obtain rfl := List.mem_singleton.1 h2
      exact hlo
  · rw [hat] at hkm
    have g := h.mb k m hk hkm
    exact ⟨g.b, g.iv, g.i2, g.kn, by have := g.w; omega⟩
  · rw [hat]
    rw [hE.li] at hkl
    exact h.mn k hk hkl
/-- A certificate that the liar has. -/
theorem GInv.crt {K : Clu} {t : Nat} (h : GInv K t) {c : Crt} (hc : BackC K c.view c.block) : 0 ≤ c.view ∧ c.view ≤ 1000 ∧ c.block < 18446744073709551616 := by
  rcases hc with ⟨h1, h2⟩ | ⟨h1, h2⟩
  · rw [h1, h2]; omega
  · obtain ⟨x, hx, e1, e2⟩ := BackC.vd (K := K) (.inr ⟨h1, h2⟩) h1
    have g := h.a.c.vg x hx
    have hk : x.fro.toNat < 4 := by have := g.f0; have := g.f3; omega
    have hkf : ((x.fro.toNat : Nat) : Int) = x.fro := by have := g.f0; omega
    obtain ⟨m, hm⟩ := h.mn x.fro.toNat hk (by rw [hkf]; exact g.fl)
    have h3 := ((h.a.ms _ m hk hm).2.2.2.1 x hx hkf.symm).1
    have h4 := (h.mb _ m hk hm).iv.t1
    have h5 := g.v1
    have h6 := h.ok.vt x hx
    rw [← e1, ← e2]
    exact ⟨by omega, by omega, h6.n1⟩
theorem GInv.crtAt {K : Clu} {t : Nat} (h : GInv K t) (i : Nat) : BackC K (K.certs.getD i Crt.zero).view (K.certs.getD i Crt.zero).block := by
  rw [List.getD_eq_getElem?_getD]
  cases hi : K.certs[i]? with
  | none => exact .inl ⟨rfl, rfl⟩
  | some c => exact h.a.c.crt c (List.mem_of_getElem? hi)
/-- It says something to all, or to some. -/
def Clu.says (K : Clu) (x : Msg) (go : Nat → Bool) : Clu × Bool := if K.over then (K, true) else ({ K with letters := K.letters ++ [⟨-1, x⟩] } : Clu).tells x go 4 0 true
/-- The next view from v on whose leader is f. -/
def upTo (v f : Int) : Int := v + (f - v) % 4
def Clu.lies (K : Clu) (kind a b : Int) (go : Nat → Bool) : Clu × Bool :=
  let c := K.certs.getD (K.certs.length - 1 - pickN b K.certs.length) Crt.zero
  if kind = 4 then
    let v := upTo (c.view + 1 + pickN a 4) K.liar
    let blk : Blk := ⟨v, c, cmdText (K.count.toNat + 1)⟩
    (({ K with count := K.count + 1 } : Clu).meets blk).says ⟨1, K.liar, v, blk, 0, Crt.zero, sealOf K.liar 1 v blk.num⟩ go
  else if kind = 5 then
    if K.letters.length = 0 then (K, true) else
    let l := K.letters.getD (K.letters.length - 1 - pickN a K.letters.length) ⟨0, Msg.zero⟩
    if l.msg.kind ≠ 1 then (K, true) else
    K.says ⟨2, K.liar, l.msg.view, Blk.zero, l.msg.block.num, Crt.zero, sealOf K.liar 2 l.msg.view l.msg.block.num⟩ go
  else K.says ⟨3, K.liar, c.view + 1 + pickN a 6, Blk.zero, 0, c, sealOf K.liar 3 (c.view + 1 + pickN a 6) 0⟩ go
theorem meets_letters (K : Clu) (b : Blk) (l : Ltr) : ({ K.meets b with letters := (K.meets b).letters ++ [l] } : Clu) = ({ K with letters := K.letters ++ [l] } : Clu).meets b := by
  unfold Clu.meets
  dsimp only
  split <;> rfl
theorem cmd_size (n : Nat) (hn : n < 100000000000000) : (cmdText n).size ≤ 16 := by
  have h1 : (Lib.decDigits n).length ≤ 15 := by
    by_cases h : n = 0
    · subst h; decide +kernel
    · rw [Lib.decDigits_length]
      have key : ∀ (f k : Nat), k < 10 ^ (f + 1) → Lib.nDigits k ≤ f + 1 := by
        intro f
        induction f with
        | zero => intro k hk; rw [Lib.nDigits]; split <;> omega
        | succ f ih =>
          intro k hk
          rw [Lib.nDigits]
          split
          · omega
          · have := ih (k / 10) (by rw [Nat.pow_succ] at hk; omega)
            omega
      exact key 14 n (by omega)
  show (99 :: Lib.decDigits n).toArray.size ≤ 16
  simp
  omega
theorem says_ginv {K : Clu} {u : Nat} (hu2 : u ≤ 20000000000000) {x : Msg} {go : Nat → Bool} (hx : x.Ok)
    (hK : K.over = false → GInv ({ K with letters := K.letters ++ [⟨-1, x⟩] } : Clu) u ∧ MsgB ({ K with letters := K.letters ++ [⟨-1, x⟩] } : Clu) x) (ho : (K.says x go).1.over = false) : GInv (K.says x go).1 u ∧ (K.says x go).2 = true := by
  unfold Clu.says at ho ⊢
  by_cases hov : K.over = true
  · rw [if_pos hov] at ho
    rw [show K.over = false from ho] at hov
    cases hov
  · rw [if_neg hov] at ho ⊢
    obtain ⟨h1, h2⟩ := hK (by simpa using hov)
    exact tells_ginv hx 4 0 true rfl h1 hu2 h2 ho
theorem crt_ok {c : Crt} (h : 0 ≤ c.view ∧ c.view ≤ 1000 ∧ c.block < 18446744073709551616) : c.Ok := ⟨by omega, by omega, h.2.2⟩
theorem upTo_le (v f : Int) : v ≤ upTo v f ∧ upTo v f ≤ v + 3 := by unfold upTo; omega
theorem lies_ginv {K : Clu} {t : Nat} (h : GInv K t) (ht : t + 1 ≤ 20000000000000) (hlt : K.letters.length < 3000) (kind a b : Int) (go : Nat → Bool) (ho : (K.lies kind a b go).1.over = false) : GInv (K.lies kind a b go).1 (t + 1) ∧ (K.lies kind a b go).2 = true := by
  have hB := h.crtAt (K.certs.length - 1 - pickN b K.certs.length)
  have hr := h.crt hB
  have p4 := pickN_lt a 4 (by decide)
  have p6 := pickN_lt a 6 (by decide)
  unfold Clu.lies at ho ⊢
  dsimp only at ho ⊢
  generalize K.certs.getD (K.certs.length - 1 - pickN b K.certs.length) Crt.zero = c at hB hr ho ⊢
  by_cases k4 : kind = 4
  · rw [if_pos k4] at ho ⊢
    have hv := upTo_le (c.view + 1 + pickN a 4) K.liar
    generalize upTo (c.view + 1 + pickN a 4) K.liar = v at hv ho ⊢
    have hbo : Blk.Ok ⟨v, c, cmdText (K.count.toNat + 1)⟩ := ⟨by show _ ≤ v; omega, by show v ≤ _; omega, crt_ok hr, Nat.le_trans (cmd_size _ (by have := h.c1; have := h.c0; omega)) (by decide)⟩
    generalize hbk : (⟨v, c, cmdText (K.count.toNat + 1)⟩ : Blk) = blk at hbo ho ⊢
    refine says_ginv ht ⟨hbo, by show (0 : Nat) < _; decide, crt_zero_ok⟩ (fun hov => ?_) ho
    have ek := meets_letters ({ K with count := K.count + 1 } : Clu) blk ⟨-1, ⟨1, K.liar, v, blk, 0, Crt.zero, sealOf K.liar 1 v blk.num⟩⟩
    have hsm := meets_same ({ ({ K with count := K.count + 1 } : Clu) with letters := K.letters ++ [⟨-1, ⟨1, K.liar, v, blk, 0, Crt.zero, sealOf K.liar 1 v blk.num⟩⟩] } : Clu) blk
    have hcK : CInv ({ K with count := K.count + 1 } : Clu) := (SameC.mk (K := K) (K' := { K with count := K.count + 1 }) rfl rfl rfl rfl rfl).cinv h.a.c
    have hov2 : (({ ({ K with count := K.count + 1 } : Clu) with letters := K.letters ++ [⟨-1, ⟨1, K.liar, v, blk, 0, Crt.zero, sealOf K.liar 1 v blk.num⟩⟩] } : Clu).meets blk).over = false := by
      rw [← ek]; exact hov
    have hbj : BackC ({ K with count := K.count + 1 } : Clu) blk.just.view blk.just.block := by
      rw [← hbk]
      exact (SameC.mk (K := K) (K' := { K with count := K.count + 1 }) rfl rfl rfl rfl rfl).ext.back hB
    obtain ⟨hC, hE⟩ := cinv_prop hcK ⟨-1, ⟨1, K.liar, v, blk, 0, Crt.zero, sealOf K.liar 1 v blk.num⟩⟩ rfl hbj hov2
    have hE2 : KExt K _ := KExt.trans (SameC.mk (K := K) (K' := { K with count := K.count + 1 }) rfl rfl rfl rfl rfl).ext hE
    have hmk := meets_keep ({ ({ K with count := K.count + 1 } : Clu) with letters := K.letters ++ [⟨-1, ⟨1, K.liar, v, blk, 0, Crt.zero, sealOf K.liar 1 v blk.num⟩⟩] } : Clu) blk
    have hcnt : (({ ({ K with count := K.count + 1 } : Clu) with letters := K.letters ++ [⟨-1, ⟨1, K.liar, v, blk, 0, Crt.zero, sealOf K.liar 1 v blk.num⟩⟩] } : Clu).meets blk).count = K.count + 1 := (meets_ck _ _).c
    have hbl : ∀ o ∈ (({ ({ K with count := K.count + 1 } : Clu) with letters := K.letters ++ [⟨-1, ⟨1, K.liar, v, blk, 0, Crt.zero, sealOf K.liar 1 v blk.num⟩⟩] } : Clu).meets blk).blocks, o.Ok := (kmeets_ok (K := ({ ({ K with count := K.count + 1 } : Clu) with letters := K.letters ++ [⟨-1, ⟨1, K.liar, v, blk, 0, Crt.zero, sealOf K.liar 1 v blk.num⟩⟩] } : Clu)) ⟨h.ok.bl, h.ok.vt, h.ok.l0, h.ok.l1⟩ blk hbo).bl
    rw [ek]
    refine ⟨said_ginv h (Nat.le_succ t) hlt ⟨-1, ⟨1, K.liar, v, blk, 0, Crt.zero, sealOf K.liar 1 v blk.num⟩⟩ hsm.2.1 ⟨⟨hbo, by show (0 : Nat) < _; decide, crt_zero_ok⟩, by show _ ≤ v; omega, by show v ≤ _; omega⟩ hsm.2.2.2.1 hsm.2.2.2.2.1 hsm.1 hsm.2.2.1 hmk.2.2.2.2.2 hbl hE2 hC (by rw [hcnt]; have := h.c0; omega) (by rw [hcnt]; have := h.c1; omega), ?_⟩
    exact ⟨fun _ => ⟨meets_at hov2, hE.back hbj⟩, (fun h2 => by cases h2), (fun h2 => by cases h2)⟩
  · rw [if_neg k4] at ho ⊢
    by_cases k5 : kind = 5
    · rw [if_pos k5] at ho ⊢
      by_cases hl0 : K.letters.length = 0
      · rw [if_pos hl0]; exact ⟨h.mono (Nat.le_succ t), rfl⟩
      · rw [if_neg hl0] at ho ⊢
        have hlv : ∀ l : Ltr, l = K.letters.getD (K.letters.length - 1 - pickN a K.letters.length) ⟨0, Msg.zero⟩ → -9223372036854775808 ≤ l.msg.view ∧ l.msg.view ≤ 9223372036854775807 := fun l hl => by
          rw [List.getD_eq_getElem?_getD] at hl
          cases hi : K.letters[K.letters.length - 1 - pickN a K.letters.length]? with
          | none => rw [hi] at hl; rw [hl]; exact ⟨by decide, by decide⟩
          | some x => rw [hi] at hl; have e : l = x := hl; rw [e]; exact (h.lt x (List.mem_of_getElem? hi)).2
        generalize hle : K.letters.getD (K.letters.length - 1 - pickN a K.letters.length) ⟨0, Msg.zero⟩ = l at ho hlv ⊢
        have hlv := hlv l rfl
        by_cases hk1 : l.msg.kind ≠ 1
        · rw [if_pos hk1]; exact ⟨h.mono (Nat.le_succ t), rfl⟩
        · rw [if_neg hk1] at ho ⊢
          have hxo : Msg.Ok ⟨2, K.liar, l.msg.view, Blk.zero, l.msg.block.num, Crt.zero, sealOf K.liar 2 l.msg.view l.msg.block.num⟩ := ⟨blk_zero_ok, num_lt _, crt_zero_ok⟩
          refine says_ginv ht hxo (fun hov => ?_) ho
          have hM : MsgB K ⟨2, K.liar, l.msg.view, Blk.zero, l.msg.block.num, Crt.zero, sealOf K.liar 2 l.msg.view l.msg.block.num⟩ := ⟨(fun h2 => by cases h2), fun _ h2 => absurd rfl h2, (fun h2 => by cases h2)⟩
          obtain ⟨hC, hE⟩ := cinv_enter h.a.c ⟨-1, ⟨2, K.liar, l.msg.view, Blk.zero, l.msg.block.num, Crt.zero, sealOf K.liar 2 l.msg.view l.msg.block.num⟩⟩ hM
          exact ⟨said_ginv h (Nat.le_succ t) hlt _ rfl ⟨hxo, hlv⟩ rfl (fun _ => rfl) rfl rfl (Nat.le_succ _) h.ok.bl hE hC h.c0 (by have := h.c1; show K.count ≤ _; omega), hE.msgB hM⟩
    · rw [if_neg k5] at ho ⊢
      have hxo : Msg.Ok ⟨3, K.liar, c.view + 1 + pickN a 6, Blk.zero, 0, c, sealOf K.liar 3 (c.view + 1 + pickN a 6) 0⟩ := ⟨blk_zero_ok, by show (0 : Nat) < _; decide, crt_ok hr⟩
      refine says_ginv ht hxo (fun hov => ?_) ho
      have hM : MsgB K ⟨3, K.liar, c.view + 1 + pickN a 6, Blk.zero, 0, c, sealOf K.liar 3 (c.view + 1 + pickN a 6) 0⟩ := ⟨(fun h2 => by cases h2), (fun h2 => by cases h2), fun _ => hB⟩
      obtain ⟨hC, hE⟩ := cinv_enter h.a.c ⟨-1, ⟨3, K.liar, c.view + 1 + pickN a 6, Blk.zero, 0, c, sealOf K.liar 3 (c.view + 1 + pickN a 6) 0⟩⟩ hM
      exact ⟨said_ginv h (Nat.le_succ t) hlt _ rfl ⟨hxo, by show _ ≤ c.view + 1 + pickN a 6; omega, by show c.view + 1 + pickN a 6 ≤ _; omega⟩ rfl (fun _ => rfl) rfl rfl (Nat.le_succ _) h.ok.bl hE hC h.c0 (by have := h.c1; show K.count ≤ _; omega), hE.msgB hM⟩
/-- A member is given a command. -/
def Clu.gives (K : Clu) (k : Nat) : Clu × Bool :=
  match K.memAt k with
  | none => (K, true)
  | some m => (({ K with count := K.count + 1 } : Clu).setMem k (m.submit (cmdText (K.count.toNat + 1))).1, (m.submit (cmdText (K.count.toNat + 1))).2 == 0 || (m.submit (cmdText (K.count.toNat + 1))).2 == 6)
theorem submit_same (m : Mem) (s : ByteArray) : (m.submit s).1.blocks = m.blocks ∧ (m.submit s).1.high = m.high ∧ (m.submit s).1.locked = m.locked ∧ (m.submit s).1.votes = m.votes ∧ (m.submit s).1.log = m.log ∧ (m.submit s).1.proposed = m.proposed ∧ (m.submit s).1.enters = m.enters ∧ (m.submit s).1.view = m.view ∧ (m.submit s).1.voted = m.voted ∧ (m.submit s).1.id = m.id ∧ (m.submit s).1.waited = m.waited := by
  unfold Mem.submit
  split
  · exact ⟨rfl, rfl, rfl, rfl, rfl, rfl, rfl, rfl, rfl, rfl, rfl⟩
  · split <;> exact ⟨rfl, rfl, rfl, rfl, rfl, rfl, rfl, rfl, rfl, rfl, rfl⟩
theorem gives_ginv {K : Clu} {t : Nat} (h : GInv K t) (ht : t + 1 ≤ 20000000000000) {k : Nat} (hk : k < 4) : GInv (K.gives k).1 (t + 1) ∧ (K.gives k).2 = true := by
  unfold Clu.gives
  cases hm : K.memAt k with
  | none => exact ⟨h.mono (Nat.le_succ t), rfl⟩
  | some m =>
    dsimp only
    have hsz := cmd_size (K.count.toNat + 1) (by have := h.c1; have := h.c0; omega)
    generalize cmdText (K.count.toNat + 1) = s at hsz ⊢
    obtain ⟨e1, e2, e3, e4, e5, e6, e7, e8, e9, e10, e11⟩ := submit_same m s
    have g := h.mb k m hk hm
    obtain ⟨hid, hkl, hM, hvo, hwas⟩ := h.a.ms k m hk hm
    have hr : (m.submit s).2 = 0 ∨ (m.submit s).2 = 6 := by
      unfold Mem.submit
      rw [if_neg (by omega)]
      split
      · exact .inr rfl
      · exact .inl rfl
    have hat : ∀ i, (({ K with count := K.count + 1 } : Clu).setMem k (m.submit s).1).memAt i = if i = k then some (m.submit s).1 else K.memAt i := fun i => memAt_set' (K := { K with count := K.count + 1 }) (by show k < K.mem.length; rw [h.a.ml]; exact hk)
    have hsame : SameC K (({ K with count := K.count + 1 } : Clu).setMem k (m.submit s).1) := ⟨rfl, rfl, rfl, rfl, rfl⟩
    have hcm : (m.submit s).1.commands = m.commands := by unfold Mem.commands Mem.block; rw [e5, e1]
    have hsum : (({ K with count := K.count + 1 } : Clu).setMem k (m.submit s).1).sumW = K.sumW := by
      unfold Clu.sumW
      rw [hat, hat, hat, hat]
      have hwk : wtO (some (m.submit s).1) = wtO (K.memAt k) := by rw [hm]; show (m.submit s).1.wt = m.wt; unfold Mem.wt; rw [e8, e9, e6]
      rcases (by omega : k = 0 ∨ k = 1 ∨ k = 2 ∨ k = 3) with rfl | rfl | rfl | rfl
      · rw [if_pos rfl, if_neg (by omega), if_neg (by omega), if_neg (by omega), hwk]
      · rw [if_neg (by omega), if_pos rfl, if_neg (by omega), if_neg (by omega), hwk]
      · rw [if_neg (by omega), if_neg (by omega), if_pos rfl, if_neg (by omega), hwk]
      · rw [if_neg (by omega), if_neg (by omega), if_neg (by omega), if_pos rfl, hwk]
    generalize hKK : ({ K with count := K.count + 1 } : Clu).setMem k (m.submit s).1 = K' at hat hsame hsum ⊢
    have hcount : K'.count = K.count + 1 := by rw [← hKK]; rfl
    have hwasK : ∀ i, K'.was i = K.was i := fun i => by rw [← hKK]; rfl
    have hlen : K'.mem.length = 4 := by rw [← hKK]; show (K.mem.set k _).length = 4; rw [List.length_set, h.a.ml]
    have hvo' : ∀ (i : Int) (m' : Mem), Vo K i m' → Vo K' i m' := fun i m' hv x hx hf => by
      rw [hsame.vt] at hx
      have := hv x hx hf
      have q1 : ∀ n, K'.gv n = K.gv n := fun n => by unfold Clu.gv; rw [hsame.bl]
      have q2 : ∀ n, K'.gu n = K.gu n := fun n => by unfold Clu.gu; rw [hsame.bl]
      rw [q2, q2, q1]; exact this
    refine ⟨⟨⟨hsame.cinv h.a.c, by unfold PwK; rw [hsame.vt]; exact h.a.pw, hlen, fun i mi hi hmi => ?_, fun i hi hmi => ?_⟩, ⟨by rw [hsame.bl]; exact h.ok.bl, by rw [hsame.vt]; exact h.ok.vt, by rw [hsame.li]; exact h.ok.l0, by rw [hsame.li]; exact h.ok.l1⟩, ?_, by rw [hsame.lt, hsum]; exact h.ll, by rw [hsame.lt]; exact h.lt, fun i mi hi hmi => ?_, by rw [hcount]; have := h.c0; omega, by rw [hcount]; have := h.c1; omega, fun i hi hil => ?_, by rw [hsame.cr]; exact h.cn⟩, by rcases hr with e | e <;> rw [e] <;> rfl⟩
    · rw [hat] at hmi
      rw [hwasK]
      by_cases hik : i = k
      · subst hik
        rw [if_pos rfl] at hmi
        obtain rfl := Option.some.inj hmi
        refine ⟨e10.trans hid, by rw [hsame.li]; exact hkl, hsame.ext.minv h.a.c.vg (hM.same e1 e2 e3 e4 e5), hvo' _ _ (fun x hx hf => by rw [e9, e3]; exact hvo x hx hf), ⟨by rw [hcm]; exact hwas.lg, by rw [e8]; exact hwas.vw, by rw [e2]; exact hwas.hi, by rw [e3]; exact hwas.lk⟩⟩
      · rw [if_neg hik] at hmi
        obtain ⟨a1, a2, a3, a4, a5⟩ := h.a.ms i mi hi hmi
        exact ⟨a1, by rw [hsame.li]; exact a2, hsame.ext.minv h.a.c.vg a3, hvo' _ _ a4, a5⟩
    · rw [hat] at hmi
      rw [hwasK]
      by_cases hik : i = k
      · rw [if_pos hik] at hmi; cases hmi
      · rw [if_neg hik] at hmi
        exact h.a.wz i hi hmi
    · unfold LQ
      rw [hsame.lt]
      exact ⟨by rw [hsame.lt]; exact h.lq.lt, by rw [hsame.cr]; exact h.lq.ct, by rw [hsame.vt]; exact h.lq.vt, by rw [hsame.bl]; exact h.lq.bl⟩
    · rw [hat] at hmi
      by_cases hik : i = k
      · rw [if_pos hik] at hmi
        obtain rfl := Option.some.inj hmi
        exact ⟨g.b.same e6 e1 e7, inv_submit g.iv s, inv2_submit g.i2 s, kn_blocks g.kn e1, by rw [e11]; have := g.w; omega⟩
      · rw [if_neg hik] at hmi
        have g2 := h.mb i mi hi hmi
        exact ⟨g2.b, g2.iv, g2.i2, g2.kn, by have := g2.w; omega⟩
    · rw [hat]
      by_cases hik : i = k
      · rw [if_pos hik]; exact ⟨_, rfl⟩
      · rw [if_neg hik]; rw [hsame.li] at hil; exact h.mn i hi hil
/-! The start. -/
theorem find_new {n : Nat} {b : Blk} {i p : Int} (h : (Mem.new i p).block n = some b) : n = 0 ∧ b = Blk.zero := by
  change find n [(0, Blk.zero)] = some b at h
  unfold find at h
  split at h
  · rename_i e; exact ⟨e.symm, (Option.some.inj h).symm⟩
  · cases h
theorem begins_mat (liar p : Int) {k : Nat} (hk : k < 4) : (Clu.begins liar p).memAt k = if (k : Int) = liar then none else some (Mem.new k p) := by
  rcases (by omega : k = 0 ∨ k = 1 ∨ k = 2 ∨ k = 3) with rfl | rfl | rfl | rfl <;> rfl
theorem begins_ginv (liar p : Int) (hl : 0 ≤ liar ∧ liar ≤ 3) (hp : 1 ≤ p ∧ p ≤ 100) : GInv (Clu.begins liar p) 0 := by
  have hv : (Clu.begins liar p).voted = [] := rfl
  have hz : BackC (Clu.begins liar p) 0 0 := .inl ⟨rfl, rfl⟩
  have hm : ∀ k m, k < 4 → (Clu.begins liar p).memAt k = some m → (k : Int) ≠ liar ∧ m = Mem.new k p := fun k m hk he => by
    rw [begins_mat liar p hk] at he
    split at he
    · cases he
    · rename_i hn; exact ⟨hn, (Option.some.inj he).symm⟩
  have hwas : ∀ k, (Clu.begins liar p).was k = Sta.zero := fun k => by
    unfold Clu.was
    split
    · rfl
    · split
      · rfl
      · split <;> rfl
  refine ⟨⟨⟨hl, (fun t ht => by cases ht), (fun t ht => by cases ht), (fun t ht => by cases ht), fun c hc => ?_, (fun l hl => by cases hl)⟩, List.Pairwise.nil, rfl, fun k m hk he => ?_, fun k hk _ => by rw [hwas]; rfl⟩, ⟨(fun o ho => by cases ho), (fun o ho => by cases ho), by show -1 ≤ liar; omega, hl.2⟩, ⟨Nat.zero_le _, Nat.le_refl 1, Nat.zero_le _, Nat.zero_le _⟩, Nat.zero_le _, (fun l hl => by cases hl), fun k m hk he => ?_, Int.le_refl 0, Int.le_refl 0, fun k hk hkl => ?_, Nat.le_refl 1⟩
  · have : c = Crt.zero := by simpa [Clu.begins] using hc
    rw [this]; exact hz
  · obtain ⟨h1, rfl⟩ := hm k m hk he
    refine ⟨rfl, h1, ⟨fun n b hb h0 => absurd (find_new hb).1 h0, fun n b hb => ?_, hz, hz, Int.le_refl _, (fun t ht => by cases ht), fun h => absurd rfl h⟩, (fun t ht => by cases ht), ?_⟩
    · rw [(find_new hb).2]; exact hz
    · rw [hwas]; exact ⟨.inl rfl, by show (0 : Int) ≤ 1; decide, Int.le_refl _, Int.le_refl _⟩
  · obtain ⟨h1, rfl⟩ := hm k m hk he
    exact ⟨⟨List.Pairwise.nil, (fun v hv => by cases hv), by show ([0] : List Nat).Nodup; simp, (fun t ht => by cases ht)⟩, inv_new k p ⟨by omega, by omega, hp.1, hp.2⟩, inv2_new k p, (mok_new k p ⟨by omega, by omega, hp.1, hp.2⟩).kn, Int.le_refl 0⟩
  · rw [begins_mat liar p hk, if_neg (show ¬ (k : Int) = liar from hkl)]; exact ⟨_, rfl⟩
/-- One step. -/
def Clu.happens (K : Clu) (kind a b : Int) (go : Nat → Bool) : Clu × Bool :=
  if kind = 1 then K.ticks (pickN a 4)
  else if kind = 2 then
    if K.letters.length = 0 then (K, true) else K.comes (pickN b 4) (K.letters.getD (K.letters.length - 1 - pickN a K.letters.length) ⟨0, Msg.zero⟩).msg
  else if kind = 3 then K.gives (pickN a 4)
  else if kind = 4 ∨ kind = 5 ∨ kind = 6 then if K.letters.length < 3000 then K.lies kind a b go else (K, true)
  else (K, true)
theorem happens_ginv {K : Clu} {t : Nat} (h : GInv K t) (ht : t + 1 ≤ 20000000000000) (kind a b : Int) (go : Nat → Bool) (ho : (K.happens kind a b go).1.over = false) : GInv (K.happens kind a b go).1 (t + 1) ∧ (K.happens kind a b go).2 = true := by
  have p4 := pickN_lt a 4 (by decide)
  have q4 := pickN_lt b 4 (by decide)
  unfold Clu.happens at ho ⊢
  by_cases k1 : kind = 1
  · rw [if_pos k1] at ho ⊢; exact ticks_ginv h (by omega) p4 ho
  rw [if_neg k1] at ho ⊢
  by_cases k2 : kind = 2
  · rw [if_pos k2] at ho ⊢
    by_cases hl : K.letters.length = 0
    · rw [if_pos hl]; exact ⟨h.mono (Nat.le_succ t), rfl⟩
    · rw [if_neg hl] at ho ⊢
      have hpk := pickN_lt a K.letters.length (by omega)
      have hi : K.letters.length - 1 - pickN a K.letters.length < K.letters.length := by omega
      have he : K.letters.getD (K.letters.length - 1 - pickN a K.letters.length) ⟨0, Msg.zero⟩ = K.letters[K.letters.length - 1 - pickN a K.letters.length] := by
        rw [List.getD_eq_getElem?_getD, List.getElem?_eq_getElem hi]; rfl
      rw [he] at ho ⊢
      have hmem := List.getElem_mem hi
      obtain ⟨h1, h2⟩ := comes_ginv h (by omega) q4 (h.lt _ hmem).1 (h.a.c.ltr _ hmem) ho
      exact ⟨h1.mono (Nat.le_succ t), h2⟩
  rw [if_neg k2] at ho ⊢
  by_cases k3 : kind = 3
  · rw [if_pos k3]; exact gives_ginv h ht p4
  rw [if_neg k3] at ho ⊢
  by_cases k4 : kind = 4 ∨ kind = 5 ∨ kind = 6
  · rw [if_pos k4] at ho ⊢
    by_cases hl : K.letters.length < 3000
    · rw [if_pos hl] at ho ⊢; exact lies_ginv h ht hl kind a b go ho
    · rw [if_neg hl]; exact ⟨h.mono (Nat.le_succ t), rfl⟩
  · rw [if_neg k4]; exact ⟨h.mono (Nat.le_succ t), rfl⟩
end Go.Proofs.YtkehpnobidendaaDoor

namespace Go.Proofs.YtkehpnobidendaaDoor
open Go.RowKit

/-- Nobody hears: so many rounds of ticks. -/
def quietK : Nat → Clu
  | 0 => Clu.begins (-1) 1
  | n + 1 => ((quietK n).allTick 4 0).1
def quietRun : Nat → Clu → Bool
  | 0, _ => true
  | n + 1, K => (K.allTick 4 0).2 && quietRun n (K.allTick 4 0).1
/-- What is asked in the end. -/
def recGood (v : Int) (K : Clu) : Bool := !K.over && (K.agree && ((List.range 4).all fun k => decide ((K.was k).log.length ≠ 0 ∧ v + 4 < (K.was k).view)))
/-- From a letter on, all that is sent comes, in order; from the sixtieth letter on all is as it is asked, whenever it ends. -/
def recRun (v : Int) : Nat → Nat → Nat → Clu → Bool
  | 0, _, _, _ => true
  | f + 1, n, at1, K => (decide (n < 60) || recGood v K) && match K.letters[at1]? with
    | none => false
    | some l => (K.goes l 4 0).2 && recRun v f (n + 1) (at1 + 1) (K.goes l 4 0).1
def recOk (s : Nat) : Bool :=
  let K := quietK (s + 1)
  decide (K.letters.length = 4 * (s + 1)) && (((List.range 4).all fun k => decide ((K.was k).log.length = 0 ∧ (K.was k).view = s + 2)) && (((K.letters.drop (4 * s)).all fun l => decide (l.msg.kind = 3 ∧ l.msg.view = s + 2 ∧ l.to = (s + 2) % 4)) && recRun (s + 2) 120 0 (4 * s) K))
theorem quiet_run : quietRun 30 (Clu.begins (-1) 1) = true := by decide +kernel
theorem quiet_at : ∀ (n j : Nat), quietRun n (quietK j) = true → ∀ i, i < n → ((quietK (j + i)).allTick 4 0).2 = true
  | 0, _, _, _, hi => by omega
  | n + 1, j, h, i, hi => by
    have h' : ((quietK j).allTick 4 0).2 = true ∧ quietRun n (quietK (j + 1)) = true := by
      unfold quietRun at h
      rw [Bool.and_eq_true] at h
      exact h
    cases i with
    | zero => exact h'.1
    | succ i => rw [show j + (i + 1) = (j + 1) + i by omega]; exact quiet_at n (j + 1) h'.2 i (by omega)
theorem quiet_step (i : Nat) (h : i < 30) : (quietK i).allTick 4 0 = (quietK (i + 1), true) := by
  have h1 := quiet_at 30 0 quiet_run i h
  rw [Nat.zero_add] at h1
  show _ = (((quietK i).allTick 4 0).1, true)
  rw [← h1]
theorem recRun_flows {v : Int} : ∀ (f n at1 : Nat) (K : Clu), recRun v f n at1 K = true → ∀ j, j < f → ∃ K', K.flows at1 j = (K', at1 + j, true) ∧ (60 ≤ n + j → recGood v K' = true)
  | 0, _, _, _, _, _, hj => by omega
  | f + 1, n, at1, K, h, j, hj => by
    unfold recRun at h
    rw [Bool.and_eq_true, Bool.or_eq_true, decide_eq_true_eq] at h
    obtain ⟨h1, h2⟩ := h
    cases j with
    | zero => exact ⟨K, rfl, fun hh => h1.resolve_left (by omega)⟩
    | succ j =>
      cases hl : K.letters[at1]? with
      | none => rw [hl] at h2; cases h2
      | some l =>
        rw [hl] at h2
        rw [Bool.and_eq_true] at h2
        obtain ⟨K', e1, e2⟩ := recRun_flows f (n + 1) (at1 + 1) _ h2.2 j (by omega)
        refine ⟨K', ?_, fun hh => e2 (by omega)⟩
        rw [Clu.flows, hl]
        show (if (K.goes l 4 0).2 then _ else _) = _
        rw [if_pos h2.1, e1, show at1 + 1 + j = at1 + (j + 1) by omega]
/-- All that the walk asks of the plain run. -/
theorem recOk_out {s : Nat} (h : recOk s = true) :
    (quietK (s + 1)).letters.length = 4 * (s + 1) ∧ (∀ k, k < 4 → ((quietK (s + 1)).was k).log.length = 0 ∧ ((quietK (s + 1)).was k).view = (s : Int) + 2) ∧
    (∀ (i : Nat) (hi : i < (quietK (s + 1)).letters.length), 4 * s ≤ i → ((quietK (s + 1)).letters[i]).msg.kind = 3 ∧ ((quietK (s + 1)).letters[i]).msg.view = (s : Int) + 2 ∧ ((quietK (s + 1)).letters[i]).to = ((s : Int) + 2) % 4) ∧
    ∀ b, b < 60 → ∃ K', (quietK (s + 1)).flows (4 * s) (60 + b) = (K', 4 * s + (60 + b), true) ∧ K'.over = false ∧ K'.agree = true ∧ ∀ k, k < 4 → (K'.was k).log.length ≠ 0 ∧ (s : Int) + 2 + 4 < (K'.was k).view := by
  unfold recOk at h
  dsimp only at h
  rw [Bool.and_eq_true, Bool.and_eq_true, Bool.and_eq_true, decide_eq_true_eq] at h
  obtain ⟨h1, h2, h3, h4⟩ := h
  rw [List.all_eq_true] at h2 h3
  refine ⟨h1, fun k hk => ?_, fun i hi h0 => ?_, fun b hb => ?_⟩
  · have := h2 k (by simpa using hk)
    rw [decide_eq_true_eq] at this
    exact this
  · have hm : (quietK (s + 1)).letters[i] ∈ (quietK (s + 1)).letters.drop (4 * s) := by
      rw [List.mem_drop_iff_getElem]
      exact ⟨i - 4 * s, by omega, by congr 1; omega⟩
    have := h3 _ hm
    rw [decide_eq_true_eq] at this
    exact this
  · obtain ⟨K', e1, e2⟩ := recRun_flows 120 0 (4 * s) _ h4 (60 + b) (by omega)
    have e3 := e2 (by omega)
    unfold recGood at e3
    rw [Bool.and_eq_true, Bool.and_eq_true, List.all_eq_true] at e3
    refine ⟨K', e1, by simpa using e3.1, e3.2.1, fun k hk => ?_⟩
    have := e3.2.2 k (by simpa using hk)
    rw [decide_eq_true_eq] at this
    exact this
end Go.Proofs.YtkehpnobidendaaDoor

namespace Go.Proofs.YtkehpnobidendaaDoor
open Go.RowKit

/-- Where what a member had lies. -/
theorem KSit.vcells {w : World} {p : Nat} {A : Nat → Nat → Prop} {ps : List (Option Nat)} {K : Clu} (h : KSit w p A ps K) (k : Nat) (hk : k < 4) : w.cell? ⟨p, 5 + k * 4, none⟩ = some (.int .i64 (K.was k).view) ∧ w.cell? ⟨p, 5 + k * 4 + 1, none⟩ = some (.int .i64 (K.was k).high) ∧ w.cell? ⟨p, 5 + k * 4 + 2, none⟩ = some (.int .i64 (K.was k).locked) := by
  obtain ⟨vm, vl, vc, vv, l0, l1, l2, l3, vb, g1⟩ := h.k.ex
  rcases (by omega : k = 0 ∨ k = 1 ∨ k = 2 ∨ k = 3) with rfl | rfl | rfl | rfl
  · exact ⟨cell_at g1.box 5, cell_at g1.box 6, cell_at g1.box 7⟩
  · exact ⟨cell_at g1.box 9, cell_at g1.box 10, cell_at g1.box 11⟩
  · exact ⟨cell_at g1.box 13, cell_at g1.box 14, cell_at g1.box 15⟩
  · exact ⟨cell_at g1.box 17, cell_at g1.box 18, cell_at g1.box 19⟩
theorem KSit.over {w : World} {p : Nat} {A : Nat → Nat → Prop} {ps : List (Option Nat)} {K : Clu} (h : KSit w p A ps K) : w.cell? ⟨p, 23, none⟩ = some (.bool K.over) := by
  obtain ⟨vm, vl, vc, vv, l0, l1, l2, l3, vb, g1⟩ := h.k.ex
  exact cell_at g1.box 23
set_option maxRecDepth 100000 in
set_option maxHeartbeats 8000000 in
theorem krecovers0 (hrok : ∀ s, s < 30 → recOk s = true) (be si : Int) (p0 : -9223372036854775808 ≤ be) (p1 : be ≤ 9223372036854775807) (t0 : -9223372036854775808 ≤ si) (t1 : si ≤ 9223372036854775807) (w : World) (ht : Tab w) :
    Calls Tryd.prog 7 #[.int .i64 be, .int .i64 si] w fun e w' => e = .returned (.bool true) ∧ Below w.heap.size w w' := by
  have HAW : Hid (Calls Tryd.prog 10 #[] w fun e w' => e = .returned (.bool true) ∧ Below w.heap.size w w') := kawake w ht
  have HT : Hid (Tab w) := ht
  have HBG : Hid (∀ W, Tab W → Calls Tryd.prog 19 #[.int .i64 (-1), .int .i64 1] W fun e w' => KBegun W (-1) 1 e w') := fun W hW => kbegins W hW (-1) 1 (by decide) (by decide)
  have HP1 : Hid (∀ W, Calls Tryd.prog 13 #[.int .i64 si, .int .i64 30] W fun e w' => e = .returned (.int .i64 (pickN si 30)) ∧ W = w') := fun W => (kpick si 30 t0 t1 (by decide) (by decide) W).mono (fun _ _ h => ⟨h.1, h.2.symm⟩)
  have HP2 : Hid (∀ W, Calls Tryd.prog 13 #[.int .i64 be, .int .i64 60] W fun e w' => e = .returned (.int .i64 (pickN be 60)) ∧ W = w') := fun W => (kpick be 60 p0 p1 (by decide) (by decide) W).mono (fun _ _ h => ⟨h.1, h.2.symm⟩)
  have hs := pickN_lt si 30 (by decide)
  have hb := pickN_lt be 60 (by decide)
  generalize pickN si 30 = s at hs HP1
  generalize pickN be 60 = b at hb HP2
  obtain ⟨r1, r2, r3, r4⟩ := recOk_out (hrok s hs)
  obtain ⟨Kf, r5, r6, r7, r8⟩ := r4 b hb
  have HR1 : Hid ((quietK (s + 1)).letters.length = 4 * (s + 1)) := r1
  have HR2 : Hid (∀ k, k < 4 → ((quietK (s + 1)).was k).log.length = 0 ∧ ((quietK (s + 1)).was k).view = (s : Int) + 2) := r2
  have HR3 : Hid (∀ (i : Nat) (hi : i < (quietK (s + 1)).letters.length), 4 * s ≤ i → ((quietK (s + 1)).letters[i]).msg.kind = 3 ∧ ((quietK (s + 1)).letters[i]).msg.view = (s : Int) + 2 ∧ ((quietK (s + 1)).letters[i]).to = ((s : Int) + 2) % 4) := r3
  have HR5 : Hid ((quietK (s + 1)).flows (4 * s) (60 + b) = (Kf, 4 * s + (60 + b), true)) := r5
  have HR6 : Hid (Kf.over = false ∧ Kf.agree = true) := ⟨r6, r7⟩
  have HR8 : Hid (∀ k, k < 4 → (Kf.was k).log.length ≠ 0 ∧ (s : Int) + 2 + 4 < (Kf.was k).view) := r8
  clear r1 r2 r3 r4 r5 r6 r7 r8 ht hrok
  have hsI : (s : Int) ≤ 29 := by omega
  have hs0 : (0 : Int) ≤ (s : Int) := by omega
  have hbI : (b : Int) ≤ 59 := by omega
  have hb0 : (0 : Int) ≤ (b : Int) := by omega
  go_enter Tryd.func7, Tryd.ntmps7
  go_upto_region 2 with (go_at_call 10; refine HAW.out.mono ?_; rintro e w1 ⟨rfl, hb1⟩; have HB1 : Hid (Below w.heap.size w w1) := hb1; clear hb1)
  have HT1 : Hid (Tab w1) := HT.out.below HB1.out
  go_upto_region 3 with (go_at_call 19; refine (HBG.out w1 HT1.out).mono ?_; rintro e w2 ⟨p, A, ps, rfl, hs2, hn2, hb2⟩; have HS : Hid (KSit w2 p A ps (quietK 0)) := hs2; have HN : Hid (∀ b, UA A b → w1.heap.size ≤ b) := hn2; have HB2 : Hid (Below w1.heap.size w1 w2) := hb2; clear hs2 hn2 hb2)
  have HK0 : Hid (KOk (quietK 0) 1) := begins_kok (-1) 1 (by decide) (by decide)
  have HBE : Hid (Below w.heap.size w w2) := bnext HB1.out HB2.out
  have HNE : Hid (∀ b, UA A b → w.heap.size ≤ b) := fun b hb => Nat.le_trans HB1.out.size (HN.out b hb)
  clear HAW HBG HT HT1 HB1 HB2 HN
  go_upto_region 6 with (go_at_call 13; refine (HP1.out _).mono ?_; rintro e w9 ⟨rfl, rfl⟩)
  clear HP1
  go_wp2
  go_loopw [7, 8] (fun oo ii wr => ∃ (i : Nat) (A1 : Nat → Nat → Prop), i ≤ s + 1 ∧ oo = .bool true ∧ ii = .int .i64 i ∧ Hid (KSit wr p A1 ps (quietK i) ∧ Grow (UA A) w2 (UA A1) ∧ Fr (UA A) w2 wr) ∧ Hid (KOk (quietK i) (1 + 8 * i))) (fun _ ii _ => s + 1 - (intOf ii).toNat)
  case atStart => exact ⟨0, A, by omega, rfl, rfl, ⟨HS.out, Grow.refl _ _, Fr.refl _ _⟩, HK0.out⟩
  case round =>
    clear HS HK0
    obtain ⟨i, A1, hi, rfl, rfl, hS, hO⟩ := hrel
    have hi0 : (0 : Int) ≤ (i : Int) := by omega
    by_cases his : i ≤ s
    · have hiI : (i : Int) ≤ (s : Int) := by omega
      have HQS : Hid ((quietK i).allTick 4 0 = (quietK (i + 1), true)) := quiet_step i (by omega)
      obtain ⟨Kn, hKn⟩ : ∃ K, K = quietK (i + 1) := ⟨_, rfl⟩
      have HKn : Hid (quietK (i + 1) = Kn) := hKn.symm
      rw [← hKn] at HQS
      clear hKn
      generalize quietK i = Ki at HQS hS hO
      go_wp2
      go_loopw [7, 9] (fun oo kk wq => ∃ (k : Nat) (A2 : Nat → Nat → Prop) (K : Clu), k ≤ 4 ∧ oo = .bool true ∧ kk = .int .i64 k ∧ Hid (KSit wq p A2 ps K ∧ Grow (UA A) w2 (UA A2) ∧ Fr (UA A) w2 wq) ∧ Hid (KOk K (1 + 8 * i + 2 * k)) ∧ Hid (K.allTick (4 - k) k = (Kn, true))) (fun _ kk _ => 4 - (intOf kk).toNat)
      case atStart => exact ⟨0, A1, Ki, by omega, rfl, rfl, hS.out, hO.out, HQS.out⟩
      case round =>
        clear hS hO HQS
        obtain ⟨k, A2, K, hk, rfl, rfl, hS, hO, hE⟩ := hrel
        have hk0 : (0 : Int) ≤ (k : Int) := by omega
        by_cases hk4 : k < 4
        · have hkI : (k : Int) < 4 := by omega
          have hst : (K.ticks k).2 = true ∧ (K.ticks k).1.allTick (4 - (k + 1)) (k + 1) = (Kn, true) := by
            have h1 := hE.out
            rw [show 4 - k = (4 - (k + 1)) + 1 by omega, allTick_step] at h1
            cases hb : (K.ticks k).2 with
            | true => rw [hb] at h1; exact ⟨rfl, h1⟩
            | false => rw [hb] at h1; rw [show (if false = true then _ else K.ticks k) = K.ticks k from rfl] at h1; rw [h1] at hb; cases hb
          have HH : Hid (Calls Tryd.prog 22 #[.pointer (some ⟨p, 0, none⟩), .agg #[.int .i64 1, .int .i64 k, .int .i64 0]] wr fun e w' => e = .returned (.bool true) ∧ KGoes wr w' p A2 ps (K.ticks k).1) := by
            have h1 := khappens1 wr p A2 ps K hS.out.1 _ hO.out (by omega) k 0 (by omega) (by omega)
            rw [pick_small hk4, hst.1] at h1
            exact h1
          have HO2 : Hid (KOk (K.ticks k).1 (1 + 8 * i + 2 * (k + 1))) := ticks_kok hO.out hk4
          have HE2 : Hid ((K.ticks k).1.allTick (4 - (k + 1)) (k + 1) = (Kn, true)) := hst.2
          clear hE hst
          generalize (K.ticks k).1 = K2 at *
          go_wp2_with (go_at_call 22; refine HH.out.mono ?_; rintro e w3 ⟨rfl, hg3⟩; have HG3 : Hid (KGoes wr w3 p A2 ps K2) := hg3; clear hg3)
          go_roundw
          case rel =>
            obtain ⟨A3, z1, z2⟩ := HG3.out.ex
            exact ⟨k + 1, A3, K2, by omega, rfl, by go_num, ⟨z1, hS.out.2.1.trans hS.out.2.2.size z2, hS.out.2.2.grow hS.out.2.1 HG3.out.fr⟩, HO2.out, HE2.out⟩
          case measure => simp [intOf]; omega
        · have hkI : ¬ (k : Int) < 4 := by omega
          have hke : k = 4 := by omega
          subst hke
          have HKe : Hid (K = Kn) := congrArg Prod.fst hE.out
          go_wp2
          go_roundw
          case rel => exact ⟨i + 1, A2, by omega, rfl, by go_num, by rw [HKn.out, ← HKe.out]; exact hS.out, by rw [HKn.out, ← HKe.out]; exact hO.out.mono (by omega)⟩
          case measure => simp [intOf]; omega
    · have hiI : ¬ (i : Int) ≤ (s : Int) := by omega
      have hie : i = s + 1 := by omega
      subst hie
      generalize quietK (s + 1) = K at *
      have v0 := (hS.out.1.vcells 0 (by omega)).1
      rw [(HR2.out 0 (by omega)).2] at v0
      obtain ⟨al, cl, q2, hrow⟩ := hS.out.1.lcells
      obtain ⟨N, hN⟩ : ∃ N, N = K.letters.length := ⟨_, rfl⟩
      rw [← hN] at q2
      have hN4 : N = 4 * (s + 1) := hN.trans HR1.out
      obtain ⟨a, ha⟩ : ∃ a, a = 4 * s := ⟨_, rfl⟩
      have hNa : (N : Int) - 4 = (a : Int) := by omega
      have HNA : Hid ((N : Int) - 4 = (a : Int)) := hNa
      have hN0 : (4 : Int) ≤ (N : Int) := by omega
      have hN1 : (N : Int) ≤ 120 := by omega
      have HA4 : Hid (a = 4 * s ∧ N = a + 4) := ⟨ha, by omega⟩
      have HNL : Hid (N = K.letters.length) := hN
      have HRW : Hid (Row wr (A1 0) 42 20 (.slice al K.letters.length cl) K.letters.length (K.letters.flatMap Ltr.cells)) := hrow
      obtain ⟨g, off, rfl, _, _, hcl⟩ := hrow.place (by omega)
      clear hN hN4 ha hNa hrow
      go_upto_region 16 with fail
      go_wp2
      go_loopw [11] (fun kk w' => ∃ (j : Nat), j ≤ 4 ∧ kk = .int .i64 j ∧ Hid (w' = wr)) (fun kk _ => 4 - (intOf kk).toNat)
      case atStart => exact ⟨0, by omega, rfl, rfl⟩
      case round =>
        obtain ⟨j, hj, rfl, hw3⟩ := hrel
        obtain rfl := hw3.out
        have hj0 : (0 : Int) ≤ (j : Int) := by omega
        by_cases hj4 : j < 4
        · have hjI : (j : Int) < 4 := by omega
          obtain ⟨av, cap, hwc, _⟩ := hS.out.1.wcells j hj4
          have hwv := (hS.out.1.vcells j hj4).1
          rw [(HR2.out j hj4).1] at hwc
          rw [(HR2.out j hj4).2] at hwv
          go_wp2
          go_roundw
          case rel => exact ⟨j + 1, by omega, by go_num, by first | exact trivial | exact rfl⟩
          case measure => simp [intOf]; omega
        · have hjI : ¬ (j : Int) < 4 := by omega
          go_upto_region 22 with fail
          rw [HNA.out]
          go_wp2
          go_loopw [13] (fun kk w' => ∃ (j : Nat), a ≤ j ∧ j ≤ N ∧ kk = .int .i64 j ∧ Hid (w' = wr)) (fun kk _ => N - (intOf kk).toNat)
          case atStart => exact ⟨a, by omega, by have := HA4.out; omega, rfl, rfl⟩
          case round =>
            obtain ⟨j, hja, hjN, rfl, hw3⟩ := hrel
            obtain rfl := hw3.out
            have hj0 : (0 : Int) ≤ (j : Int) := by omega
            by_cases hjl : j < N
            · have hjI : (j : Int) < (N : Int) := by omega
              have hjK : j < K.letters.length := by rw [← HNL.out]; exact hjl
              obtain ⟨k1, k2, k3⟩ := HR3.out j hjK (by have := HA4.out; omega)
              have f20 : ∀ l : Ltr, l.cells.length = 20 := fun _ => rfl
              have e0 := HRW.out.elem f20 j 0 hjK (by omega)
              have e1 := HRW.out.elem f20 j 1 hjK (by omega)
              have e3 := HRW.out.elem f20 j 3 hjK (by omega)
              generalize K.letters[j] = l at k1 k2 k3 e0 e1 e3
              obtain ⟨l0, ⟨xk, xf, xv, bl, nu, ct, sl⟩⟩ := l
              dsimp only at k1 k2 k3
              rw [← Int.tmod_eq_emod_of_nonneg (by omega)] at k3
              subst k1 k2 k3
              have c0 : wr.cell? ⟨g, off + j * 20, none⟩ = some (.int .i64 (((s : Int) + 2).tmod 4)) := e0
              have c1 : wr.cell? ⟨g, off + j * 20 + 1, none⟩ = some (.int .i64 3) := by rw [Nat.add_assoc]; exact e1
              have c3 : wr.cell? ⟨g, off + j * 20 + 3, none⟩ = some (.int .i64 ((s : Int) + 2)) := by rw [Nat.add_assoc]; exact e3
              clear e0 e1 e3 f20
              go_wp2
              go_roundw
              case rel => exact ⟨j + 1, by omega, by omega, by go_num, by first | exact trivial | exact rfl⟩
              case measure => simp [intOf]; omega
            · have hjI : ¬ (j : Int) < (N : Int) := by omega
              have HF : Hid (Calls Tryd.prog 23 #[.pointer (some ⟨p, 0, none⟩), .int .i64 a, .int .i64 (60 + (b : Int))] wr fun e w' => (∃ n : Int, e = .returned (.tuple #[.int .i64 n, .bool true])) ∧ KGoes wr w' p A1 ps Kf ∧ KOk Kf (2000)) := by
                have h1 := kflows wr p A1 ps K hS.out.1 _ hO.out (4 * s) (60 + b) (by omega) (by omega)
                rw [HR5.out] at h1
                have e1 : ((60 + b : Nat) : Int) = 60 + (b : Int) := by omega
                have e2 : ((4 * s : Nat) : Int) = (a : Int) := by have := HA4.out; omega
                rw [e1, e2] at h1
                exact h1.mono (fun e w' h => ⟨⟨_, h.1⟩, h.2.1, h.2.2.mono (by omega)⟩)
              clear HR5 HR3 HRW
              go_upto_region 28 with (first | (go_at_call 13; refine (HP2.out _).mono ?_; rintro e w9 ⟨rfl, rfl⟩) | (go_at_call 23; refine HF.out.mono ?_; rintro e w3 ⟨⟨nn, rfl⟩, hg3, hok3⟩; have HG3 : Hid (KGoes wr w3 p A1 ps Kf) := hg3; have HO3 : Hid (KOk Kf 2000) := hok3; clear hg3 hok3))
              have HBB : Hid (Below w.heap.size w w3) := kbelow HBE.out (hS.out.2.2.grow hS.out.2.1 HG3.out.fr) HNE.out
              obtain ⟨A3, hs3, _⟩ := HG3.out.ex
              have HS3 : Hid (KSit w3 p A3 ps Kf) := hs3
              have hov := hs3.over
              rw [HR6.out.1] at hov
              have HAG : Hid (Calls Tryd.prog 24 #[.pointer (some ⟨p, 0, none⟩)] w3 fun e w' => e = .returned (.bool true) ∧ Below w3.heap.size w3 w') := by
                have h1 := kagree w3 p A3 ps Kf hs3 (fun k => by have := HO3.out.wl k; omega)
                rw [HR6.out.2] at h1
                exact h1
              clear hs3 HG3 HF hS q2 v0
              go_wp2
              go_loopw [16] (fun kk w' => ∃ (j : Nat), j ≤ 4 ∧ kk = .int .i64 j ∧ Hid (w' = w3)) (fun kk _ => 4 - (intOf kk).toNat)
              case atStart => exact ⟨0, by omega, rfl, rfl⟩
              case round =>
                obtain ⟨j, hj, rfl, hw3⟩ := hrel
                obtain rfl := hw3.out
                have hj0 : (0 : Int) ≤ (j : Int) := by omega
                by_cases hj4 : j < 4
                · have hjI : (j : Int) < 4 := by omega
                  obtain ⟨av, cap, hwc, _⟩ := HS3.out.wcells j hj4
                  have hwv := (HS3.out.vcells j hj4).1
                  obtain ⟨g1, g2⟩ := HR8.out j hj4
                  generalize (Kf.was j).log.length = ln at hwc g1
                  generalize (Kf.was j).view = lv at hwv g2
                  have hl1 : ((ln : Int) == 0) = false := beq_eq_false_iff_ne.2 (by omega)
                  have hv1 : ¬ lv ≤ (s : Int) + 2 + 4 := by omega
                  clear g1 g2
                  go_wp2
                  go_roundw
                  case rel => exact ⟨j + 1, by omega, by go_num, by first | exact trivial | exact rfl⟩
                  case measure => simp [intOf]; omega
                · have hjI : ¬ (j : Int) < 4 := by omega
                  go_wp2_with (go_at_call 24; refine HAG.out.mono ?_; rintro e w4 ⟨rfl, hb4⟩; have HB4 : Hid (Below wr.heap.size wr w4) := hb4; clear hb4)
                  go_ret
                  exact ⟨rfl, bnext HBB.out HB4.out⟩
end Go.Proofs.YtkehpnobidendaaDoor

namespace Go.Proofs.YtkehpnobidendaaDoor
open Go.RowKit
attribute [local go_sem ↓] pload_msg app_l

/-- The first k members, one after another. -/
def Clu.told (K : Clu) (x : Msg) (go : Nat → Bool) : Nat → Clu × Bool
  | 0 => (K, true)
  | k + 1 => if go k then (((K.told x go k).1.comes k x).1, (K.told x go k).2 && ((K.told x go k).1.comes k x).2) else K.told x go k
theorem told_only (K : Clu) (x : Msg) {go go' : Nat → Bool} : ∀ k, (∀ j, j < k → go j = go' j) → K.told x go k = K.told x go' k
  | 0, _ => rfl
  | k + 1, h => by
    unfold Clu.told
    rw [told_only K x k (fun j hj => h j (by omega)), h k (by omega)]
theorem told_tells (K : Clu) (x : Msg) (go : Nat → Bool) : K.tells x go 4 0 true = K.told x go 4 := by
  have key : ∀ (f k : Nat), f + k = 4 → (K.told x go k).1.tells x go f k (K.told x go k).2 = K.told x go 4 := by
    intro f
    induction f with
    | zero => intro k hk; have e : k = 4 := by omega
              subst e; rfl
    | succ f ih =>
      intro k hk
      rw [← ih (k + 1) (by omega)]
      conv => lhs; unfold Clu.tells
      conv => rhs; unfold Clu.told
      split <;> rfl
  exact key 4 0 rfl
theorem told_kok {K : Clu} {n : Nat} {x : Msg} (hx : x.Ok) (go : Nat → Bool) (h : KOk K n) : ∀ k, k ≤ 4 → KOk (K.told x go k).1 (n + 2 * k)
  | 0, _ => h
  | k + 1, hk => by
    have h1 := told_kok hx go h k (by omega)
    unfold Clu.told
    split
    · exact (comes_kok h1 (by omega) hx).mono (by omega)
    · exact h1.mono (by omega)
/-- One decision more. -/
def goAt (go : Nat → Bool) (k : Nat) (c : Bool) : Nat → Bool := fun j => if j = k then c else go j
theorem told_at (K : Clu) (x : Msg) (go : Nat → Bool) (k : Nat) (c : Bool) : K.told x (goAt go k c) (k + 1) = if c then (((K.told x go k).1.comes k x).1, (K.told x go k).2 && ((K.told x go k).1.comes k x).2) else K.told x go k := by
  conv => lhs; unfold Clu.told
  have e : goAt go k c k = c := if_pos rfl
  have e2 : K.told x (goAt go k c) k = K.told x go k := told_only K x k (fun j hj => if_neg (by omega))
  rw [e, e2]
noncomputable def klyR28 : Code := ((Tryd.f40.body.bind (regOf 28))).getD .skip
set_option maxRecDepth 1000000 in
set_option maxHeartbeats 8000000 in
theorem kly_r28 {y1 y2 y3 y4 y5 y7 y8 y9 y10 y11 y12 y13 y14 y15 y16 y17 y18 y19 y20 y21 y22 y23 y24 y25 y26 y27 y28 y29 y30 y31 y32 y33 y34 y35 y36 y37 y38 y39 y40 y41 y42 y43 y44 y45 y46 y47 y48 y49 y50 y51 y52 y53 y54 y55 y56 y57 y58 y59 y60 y61 y62 y63 y64 y65 y66 y67 y68 y69 y70 y71 y72 y73 y74 y75 y76 y77 y78 y79 y80 y81 y82 y83 y84 y85 y86 y87 y88 y89 y90 y91 y92 y93 y94 y95 y96 y97 y98 y99 y100 y101 y102 y103 y104 y105 y106 y107 y108 y109 y110 y111 y112 y113 y114 y115 y116 y117 y118 y119 y120 y121 y122 y123 y124 y125 y126 y127 y128 y129 y130 y131 y132 y133 y134 y135 y136 y137 y138 y139 y140 y141 y142 y143 y144 y145 y146 y147 y148 y149 y150 y151 y152 y153 y154 y155 y156 y157 y158 y159 y160 y161 y162 y163 y164 y165 y166 y167 y168 y169 y170 y171 y172 y173 y174 y175 y176 y177 y178 y179 y180 y181 y182 y183 : Value} {xk xf xv bv jv j0 j1 j2 j3 cv k0 k1 k2 k3 sl : Int} {jb nu cb : Nat} {bc : ByteArray} {p Bm nl cl c7 : Nat} {al a7 : Option Addr} {wr w7 : World} {Q : Exit → Act → World → Prop}
    (hrun : (appL #[.slice al nl cl, .slice (some ⟨wr.heap.size, 0, none⟩) 1 1]).run Tryd.prog (wr.alloc (.cells #[.int .i64 (-1), .int .i64 xk, .int .i64 xf, .int .i64 xv, .int .i64 bv, .int .i64 jv, .int .u64 jb, .int .u64 j0, .int .u64 j1, .int .u64 j2, .int .u64 j3, .string bc, .int .u64 nu, .int .i64 cv, .int .u64 cb, .int .u64 k0, .int .u64 k1, .int .u64 k2, .int .u64 k3, .int .u64 sl] 42)).drew = .ok (.slice a7 (nl + 1) c7) w7) (q2 : wr.cell? ⟨p, 2, none⟩ = some (.slice al nl cl)) (q2a : ∀ ob, (wr.alloc ob).cell? ⟨p, 2, none⟩ = some (.slice al nl cl)) (q7 : w7.cell? ⟨p, 2, none⟩ = some (.slice al nl cl)) (fz7 : w7.frozen? ⟨p, 2, none⟩ = false)
    (hlw : (rowVar 40 ⟨Bm, 0, none⟩).run Tryd.prog wr.drew = .ok (.agg #[.int .i64 xk, .int .i64 xf, .int .i64 xv, .int .i64 bv, .int .i64 jv, .int .u64 jb, .int .u64 j0, .int .u64 j1, .int .u64 j2, .int .u64 j3, .string bc, .int .u64 nu, .int .i64 cv, .int .u64 cb, .int .u64 k0, .int .u64 k1, .int .u64 k2, .int .u64 k3, .int .u64 sl]) wr.drew)
    (HEX : Hid (∀ {v149 v150 v151 v152 v153 v154 v155 v156 v157 v158 v159 : Value}, Q .normal ⟨List.toArray (.pointer (some ⟨p, 0, none⟩) :: y1 :: y2 :: y3 :: y4 :: y5 :: .pointer (some ⟨Bm, 0, none⟩) :: y7 :: y8 :: y9 :: y10 :: y11 :: y12 :: y13 :: y14 :: y15 :: y16 :: y17 :: y18 :: y19 :: y20 :: y21 :: y22 :: y23 :: y24 :: y25 :: y26 :: y27 :: y28 :: y29 :: y30 :: y31 :: y32 :: y33 :: y34 :: y35 :: y36 :: y37 :: y38 :: y39 :: y40 :: y41 :: y42 :: y43 :: y44 :: y45 :: y46 :: y47 :: y48 :: y49 :: y50 :: y51 :: y52 :: y53 :: y54 :: y55 :: y56 :: y57 :: y58 :: y59 :: y60 :: y61 :: y62 :: y63 :: y64 :: y65 :: y66 :: y67 :: y68 :: y69 :: y70 :: y71 :: y72 :: y73 :: y74 :: y75 :: y76 :: y77 :: y78 :: y79 :: y80 :: y81 :: y82 :: y83 :: y84 :: y85 :: y86 :: y87 :: y88 :: y89 :: y90 :: y91 :: y92 :: y93 :: y94 :: y95 :: y96 :: y97 :: y98 :: y99 :: y100 :: y101 :: y102 :: y103 :: y104 :: y105 :: y106 :: y107 :: y108 :: y109 :: y110 :: y111 :: y112 :: y113 :: y114 :: y115 :: y116 :: y117 :: y118 :: y119 :: y120 :: y121 :: y122 :: y123 :: y124 :: y125 :: y126 :: y127 :: y128 :: y129 :: y130 :: y131 :: y132 :: y133 :: y134 :: y135 :: y136 :: y137 :: y138 :: y139 :: y140 :: y141 :: y142 :: y143 :: y144 :: y145 :: y146 :: y147 :: y148 :: v149 :: v150 :: v151 :: v152 :: v153 :: v154 :: v155 :: v156 :: v157 :: v158 :: v159 :: y160 :: y161 :: y162 :: y163 :: y164 :: y165 :: y166 :: y167 :: y168 :: y169 :: y170 :: y171 :: y172 :: y173 :: y174 :: y175 :: y176 :: y177 :: y178 :: y179 :: y180 :: y181 :: y182 :: y183 :: []), []⟩ (w7.setCell ⟨p, 2, none⟩ (.slice a7 (nl + 1) c7)))) :
    Code.wp Tryd.prog klyR28 Q ⟨List.toArray (.pointer (some ⟨p, 0, none⟩) :: y1 :: y2 :: y3 :: y4 :: y5 :: .pointer (some ⟨Bm, 0, none⟩) :: y7 :: y8 :: y9 :: y10 :: y11 :: y12 :: y13 :: y14 :: y15 :: y16 :: y17 :: y18 :: y19 :: y20 :: y21 :: y22 :: y23 :: y24 :: y25 :: y26 :: y27 :: y28 :: y29 :: y30 :: y31 :: y32 :: y33 :: y34 :: y35 :: y36 :: y37 :: y38 :: y39 :: y40 :: y41 :: y42 :: y43 :: y44 :: y45 :: y46 :: y47 :: y48 :: y49 :: y50 :: y51 :: y52 :: y53 :: y54 :: y55 :: y56 :: y57 :: y58 :: y59 :: y60 :: y61 :: y62 :: y63 :: y64 :: y65 :: y66 :: y67 :: y68 :: y69 :: y70 :: y71 :: y72 :: y73 :: y74 :: y75 :: y76 :: y77 :: y78 :: y79 :: y80 :: y81 :: y82 :: y83 :: y84 :: y85 :: y86 :: y87 :: y88 :: y89 :: y90 :: y91 :: y92 :: y93 :: y94 :: y95 :: y96 :: y97 :: y98 :: y99 :: y100 :: y101 :: y102 :: y103 :: y104 :: y105 :: y106 :: y107 :: y108 :: y109 :: y110 :: y111 :: y112 :: y113 :: y114 :: y115 :: y116 :: y117 :: y118 :: y119 :: y120 :: y121 :: y122 :: y123 :: y124 :: y125 :: y126 :: y127 :: y128 :: y129 :: y130 :: y131 :: y132 :: y133 :: y134 :: y135 :: y136 :: y137 :: y138 :: y139 :: y140 :: y141 :: y142 :: y143 :: y144 :: y145 :: y146 :: y147 :: y148 :: y149 :: y150 :: y151 :: y152 :: y153 :: y154 :: y155 :: y156 :: y157 :: y158 :: y159 :: y160 :: y161 :: y162 :: y163 :: y164 :: y165 :: y166 :: y167 :: y168 :: y169 :: y170 :: y171 :: y172 :: y173 :: y174 :: y175 :: y176 :: y177 :: y178 :: y179 :: y180 :: y181 :: y182 :: y183 :: []), []⟩ wr := by
  refine wp_mono (Q := Exit.then (Q .normal) (fun _ _ _ => False)) ?_ (fun e a w h => by cases e <;> first | exact h | exact h.elim)
  conv => arg 2; whnf
  go_region
  all_goals exact HEX.out
noncomputable def klyB2 : Code := ((Tryd.f40.body.map loopsOf).getD []).getD 1 .skip
set_option maxRecDepth 1000000 in
set_option maxHeartbeats 8000000 in
theorem kly_loop {y1 y2 y4 y5 y7 y8 y9 y10 y13 y14 y15 y16 y17 y18 y19 y20 y21 y22 y23 y24 y25 y26 y27 y28 y29 y30 y31 y32 y33 y34 y35 y36 y37 y38 y39 y40 y41 y42 y43 y44 y45 y46 y47 y48 y49 y50 y51 y52 y53 y54 y55 y56 y57 y58 y59 y60 y61 y62 y63 y64 y65 y66 y67 y68 y69 y70 y71 y72 y73 y74 y75 y76 y77 y78 y79 y80 y81 y82 y83 y84 y85 y86 y87 y88 y89 y90 y91 y92 y93 y94 y95 y96 y97 y98 y99 y100 y101 y102 y103 y104 y105 y106 y107 y108 y109 y110 y111 y112 y113 y114 y115 y116 y117 y118 y119 y120 y121 y122 y123 y124 y125 y126 y127 y128 y129 y130 y131 y132 y133 y134 y135 y136 y137 y138 y139 y140 y141 y142 y143 y144 y145 y146 y147 y148 y149 y150 y151 y152 y153 y154 y155 y156 y157 y158 y159 y160 y161 y162 y163 y164 y165 y166 y167 y168 y169 y170 y171 y172 y173 y174 y175 y176 y177 y178 y179 y180 y181 y182 y183 : Value} {xk xf xv bv jv j0 j1 j2 j3 cv k0 k1 k2 k3 sl : Int} {jb nu cb : Nat} {bc : ByteArray} {kd sa sb : Int} {p Bt Bm n : Nat} {W0 : World} {A1 : Nat → Nat → Prop} {ps : List (Option Nat)} {K1 : Clu} {Q : Exit → Act → World → Prop}
    (HS : Hid (KSit W0 p A1 ps K1)) (HO : Hid (KOk K1 n)) (hn : n ≤ 1500000000) (HXO : Hid (Msg.Ok ⟨xk, xf, xv, ⟨bv, ⟨jv, jb, j0, j1, j2, j3⟩, bc⟩, nu, ⟨cv, cb, k0, k1, k2, k3⟩, sl⟩))
    (HBX : Hid (∀ W, Fr (UA A1) W0 W → W.heap[Bt]? = some (.cells #[.int .i64 kd, .int .i64 sa, .int .i64 sb] 66 (0, 0)) ∧ W.heap[Bm]? = some (.cells #[.int .i64 xk, .int .i64 xf, .int .i64 xv, .int .i64 bv, .int .i64 jv, .int .u64 jb, .int .u64 j0, .int .u64 j1, .int .u64 j2, .int .u64 j3, .string bc, .int .u64 nu, .int .i64 cv, .int .u64 cb, .int .u64 k0, .int .u64 k1, .int .u64 k2, .int .u64 k3, .int .u64 sl] 40 (0, 0))))
    (HEX : Hid (∀ {v12 v13 v160 v161 v162 v163 v164 v165 v166 v167 v168 v169 v170 v171 v172 v173 v174 v175 v176 v177 v178 v179 v180 v181 v182 : Value} {w' : World} {go : Nat → Bool} {bo : Bool}, bo = (K1.told ⟨xk, xf, xv, ⟨bv, ⟨jv, jb, j0, j1, j2, j3⟩, bc⟩, nu, ⟨cv, cb, k0, k1, k2, k3⟩, sl⟩ go 4).2 → KGoes W0 w' p A1 ps (K1.told ⟨xk, xf, xv, ⟨bv, ⟨jv, jb, j0, j1, j2, j3⟩, bc⟩, nu, ⟨cv, cb, k0, k1, k2, k3⟩, sl⟩ go 4).1 → Q (.exit 3) ⟨List.toArray (.pointer (some ⟨p, 0, none⟩) :: y1 :: y2 :: .pointer (some ⟨Bt, 0, none⟩) :: y4 :: y5 :: .pointer (some ⟨Bm, 0, none⟩) :: y7 :: y8 :: y9 :: y10 :: .bool bo :: v12 :: v13 :: y14 :: y15 :: y16 :: y17 :: y18 :: y19 :: y20 :: y21 :: y22 :: y23 :: y24 :: y25 :: y26 :: y27 :: y28 :: y29 :: y30 :: y31 :: y32 :: y33 :: y34 :: y35 :: y36 :: y37 :: y38 :: y39 :: y40 :: y41 :: y42 :: y43 :: y44 :: y45 :: y46 :: y47 :: y48 :: y49 :: y50 :: y51 :: y52 :: y53 :: y54 :: y55 :: y56 :: y57 :: y58 :: y59 :: y60 :: y61 :: y62 :: y63 :: y64 :: y65 :: y66 :: y67 :: y68 :: y69 :: y70 :: y71 :: y72 :: y73 :: y74 :: y75 :: y76 :: y77 :: y78 :: y79 :: y80 :: y81 :: y82 :: y83 :: y84 :: y85 :: y86 :: y87 :: y88 :: y89 :: y90 :: y91 :: y92 :: y93 :: y94 :: y95 :: y96 :: y97 :: y98 :: y99 :: y100 :: y101 :: y102 :: y103 :: y104 :: y105 :: y106 :: y107 :: y108 :: y109 :: y110 :: y111 :: y112 :: y113 :: y114 :: y115 :: y116 :: y117 :: y118 :: y119 :: y120 :: y121 :: y122 :: y123 :: y124 :: y125 :: y126 :: y127 :: y128 :: y129 :: y130 :: y131 :: y132 :: y133 :: y134 :: y135 :: y136 :: y137 :: y138 :: y139 :: y140 :: y141 :: y142 :: y143 :: y144 :: y145 :: y146 :: y147 :: y148 :: y149 :: y150 :: y151 :: y152 :: y153 :: y154 :: y155 :: y156 :: y157 :: y158 :: y159 :: v160 :: v161 :: v162 :: v163 :: v164 :: v165 :: v166 :: v167 :: v168 :: v169 :: v170 :: v171 :: v172 :: v173 :: v174 :: v175 :: v176 :: v177 :: v178 :: v179 :: v180 :: v181 :: v182 :: y183 :: []), []⟩ w')) :
    Code.wp Tryd.prog (Code.loop klyB2) Q ⟨List.toArray (.pointer (some ⟨p, 0, none⟩) :: y1 :: y2 :: .pointer (some ⟨Bt, 0, none⟩) :: y4 :: y5 :: .pointer (some ⟨Bm, 0, none⟩) :: y7 :: y8 :: y9 :: y10 :: .bool true :: .int .i64 0 :: y13 :: y14 :: y15 :: y16 :: y17 :: y18 :: y19 :: y20 :: y21 :: y22 :: y23 :: y24 :: y25 :: y26 :: y27 :: y28 :: y29 :: y30 :: y31 :: y32 :: y33 :: y34 :: y35 :: y36 :: y37 :: y38 :: y39 :: y40 :: y41 :: y42 :: y43 :: y44 :: y45 :: y46 :: y47 :: y48 :: y49 :: y50 :: y51 :: y52 :: y53 :: y54 :: y55 :: y56 :: y57 :: y58 :: y59 :: y60 :: y61 :: y62 :: y63 :: y64 :: y65 :: y66 :: y67 :: y68 :: y69 :: y70 :: y71 :: y72 :: y73 :: y74 :: y75 :: y76 :: y77 :: y78 :: y79 :: y80 :: y81 :: y82 :: y83 :: y84 :: y85 :: y86 :: y87 :: y88 :: y89 :: y90 :: y91 :: y92 :: y93 :: y94 :: y95 :: y96 :: y97 :: y98 :: y99 :: y100 :: y101 :: y102 :: y103 :: y104 :: y105 :: y106 :: y107 :: y108 :: y109 :: y110 :: y111 :: y112 :: y113 :: y114 :: y115 :: y116 :: y117 :: y118 :: y119 :: y120 :: y121 :: y122 :: y123 :: y124 :: y125 :: y126 :: y127 :: y128 :: y129 :: y130 :: y131 :: y132 :: y133 :: y134 :: y135 :: y136 :: y137 :: y138 :: y139 :: y140 :: y141 :: y142 :: y143 :: y144 :: y145 :: y146 :: y147 :: y148 :: y149 :: y150 :: y151 :: y152 :: y153 :: y154 :: y155 :: y156 :: y157 :: y158 :: y159 :: y160 :: y161 :: y162 :: y163 :: y164 :: y165 :: y166 :: y167 :: y168 :: y169 :: y170 :: y171 :: y172 :: y173 :: y174 :: y175 :: y176 :: y177 :: y178 :: y179 :: y180 :: y181 :: y182 :: y183 :: []), []⟩ W0 := by
  conv => arg 2; arg 1; whnf
  go_loopw [11, 12] (fun oo kk w' => ∃ (k : Nat) (go : Nat → Bool) (bo : Bool), k ≤ 4 ∧ oo = .bool bo ∧ kk = .int .i64 k ∧ Hid (bo = (K1.told ⟨xk, xf, xv, ⟨bv, ⟨jv, jb, j0, j1, j2, j3⟩, bc⟩, nu, ⟨cv, cb, k0, k1, k2, k3⟩, sl⟩ go k).2) ∧ Hid (KGoes W0 w' p A1 ps (K1.told ⟨xk, xf, xv, ⟨bv, ⟨jv, jb, j0, j1, j2, j3⟩, bc⟩, nu, ⟨cv, cb, k0, k1, k2, k3⟩, sl⟩ go k).1)) (fun _ kk _ => 4 - (intOf kk).toNat)
  case atStart => exact ⟨0, fun _ => true, true, by omega, rfl, rfl, rfl, ⟨⟨A1, HS.out, Grow.refl _ _⟩, Fr.refl _ _⟩⟩
  case round =>
    obtain ⟨k, go, bo, hk, rfl, rfl, HBO, HG⟩ := hrel
    have hk0 : (0 : Int) ≤ (k : Int) := by omega
    by_cases hk4 : k < 4
    rotate_left
    · have hkI : ¬ (k : Int) < 4 := by omega
      have hke : k = 4 := by omega
      subst hke
      go_wp2
      exact HEX.out HBO.out HG.out
    · have hkI : (k : Int) < 4 := by omega
      obtain ⟨hbt, hbm⟩ := HBX.out wr HG.out.fr
      have t0 : wr.cell? ⟨Bt, 0, none⟩ = some (.int .i64 kd) := cell_at hbt 0
      have t1 : wr.cell? ⟨Bt, 1, none⟩ = some (.int .i64 sa) := cell_at hbt 1
      have hlw : (rowVar 40 ⟨Bm, 0, none⟩).run Tryd.prog wr = .ok (.agg #[.int .i64 xk, .int .i64 xf, .int .i64 xv, .int .i64 bv, .int .i64 jv, .int .u64 jb, .int .u64 j0, .int .u64 j1, .int .u64 j2, .int .u64 j3, .string bc, .int .u64 nu, .int .i64 cv, .int .u64 cb, .int .u64 k0, .int .u64 k1, .int .u64 k2, .int .u64 k3, .int .u64 sl]) wr := rowVar_whole _ Bm 40 40 _ (0, 0) _ hbm Tryd.underlying40 rfl (by kernel_rfl)
      obtain ⟨A2, hs2, hg2⟩ := HG.out.ex
      have HC : Hid (Calls Tryd.prog 39 #[.pointer (some ⟨p, 0, none⟩), .int .i64 k, .agg #[.int .i64 xk, .int .i64 xf, .int .i64 xv, .int .i64 bv, .int .i64 jv, .int .u64 jb, .int .u64 j0, .int .u64 j1, .int .u64 j2, .int .u64 j3, .string bc, .int .u64 nu, .int .i64 cv, .int .u64 cb, .int .u64 k0, .int .u64 k1, .int .u64 k2, .int .u64 k3, .int .u64 sl]] wr fun e w' => e = .returned (.bool ((K1.told ⟨xk, xf, xv, ⟨bv, ⟨jv, jb, j0, j1, j2, j3⟩, bc⟩, nu, ⟨cv, cb, k0, k1, k2, k3⟩, sl⟩ go k).1.comes k ⟨xk, xf, xv, ⟨bv, ⟨jv, jb, j0, j1, j2, j3⟩, bc⟩, nu, ⟨cv, cb, k0, k1, k2, k3⟩, sl⟩).2) ∧ KGoes W0 w' p A1 ps ((K1.told ⟨xk, xf, xv, ⟨bv, ⟨jv, jb, j0, j1, j2, j3⟩, bc⟩, nu, ⟨cv, cb, k0, k1, k2, k3⟩, sl⟩ go k).1.comes k ⟨xk, xf, xv, ⟨bv, ⟨jv, jb, j0, j1, j2, j3⟩, bc⟩, nu, ⟨cv, cb, k0, k1, k2, k3⟩, sl⟩).1) := by
        have := kcomes wr p A2 ps _ hs2 _ (told_kok HXO.out go HO.out k (by omega)) (by omega) k hk4 ⟨xk, xf, xv, ⟨bv, ⟨jv, jb, j0, j1, j2, j3⟩, bc⟩, nu, ⟨cv, cb, k0, k1, k2, k3⟩, sl⟩ HXO.out
        refine this.mono (fun e w' h => ⟨h.1, ?_⟩)
        exact h.2.trans hg2 HG.out.fr
      have HYES : Hid (K1.told ⟨xk, xf, xv, ⟨bv, ⟨jv, jb, j0, j1, j2, j3⟩, bc⟩, nu, ⟨cv, cb, k0, k1, k2, k3⟩, sl⟩ (goAt go k true) (k + 1) = (((K1.told ⟨xk, xf, xv, ⟨bv, ⟨jv, jb, j0, j1, j2, j3⟩, bc⟩, nu, ⟨cv, cb, k0, k1, k2, k3⟩, sl⟩ go k).1.comes k ⟨xk, xf, xv, ⟨bv, ⟨jv, jb, j0, j1, j2, j3⟩, bc⟩, nu, ⟨cv, cb, k0, k1, k2, k3⟩, sl⟩).1, (K1.told ⟨xk, xf, xv, ⟨bv, ⟨jv, jb, j0, j1, j2, j3⟩, bc⟩, nu, ⟨cv, cb, k0, k1, k2, k3⟩, sl⟩ go k).2 && ((K1.told ⟨xk, xf, xv, ⟨bv, ⟨jv, jb, j0, j1, j2, j3⟩, bc⟩, nu, ⟨cv, cb, k0, k1, k2, k3⟩, sl⟩ go k).1.comes k ⟨xk, xf, xv, ⟨bv, ⟨jv, jb, j0, j1, j2, j3⟩, bc⟩, nu, ⟨cv, cb, k0, k1, k2, k3⟩, sl⟩).2)) := told_at K1 _ go k true
      have HNO : Hid (K1.told ⟨xk, xf, xv, ⟨bv, ⟨jv, jb, j0, j1, j2, j3⟩, bc⟩, nu, ⟨cv, cb, k0, k1, k2, k3⟩, sl⟩ (goAt go k false) (k + 1) = K1.told ⟨xk, xf, xv, ⟨bv, ⟨jv, jb, j0, j1, j2, j3⟩, bc⟩, nu, ⟨cv, cb, k0, k1, k2, k3⟩, sl⟩ go k) := told_at K1 _ go k false
      generalize (K1.told ⟨xk, xf, xv, ⟨bv, ⟨jv, jb, j0, j1, j2, j3⟩, bc⟩, nu, ⟨cv, cb, k0, k1, k2, k3⟩, sl⟩ go k).1.comes k ⟨xk, xf, xv, ⟨bv, ⟨jv, jb, j0, j1, j2, j3⟩, bc⟩, nu, ⟨cv, cb, k0, k1, k2, k3⟩, sl⟩ = R at HC HYES
      obtain ⟨K3, b3⟩ := R
      dsimp only at HC HYES
      have HEND : Hid (∀ w', KGoes W0 w' p A1 ps K3 → ∃ (j : Nat) (g : Nat → Bool) (bb : Bool), j ≤ 4 ∧ Value.bool (bo && b3) = .bool bb ∧ Value.int .i64 ((k : Int) + 1) = .int .i64 j ∧ Hid (bb = (K1.told ⟨xk, xf, xv, ⟨bv, ⟨jv, jb, j0, j1, j2, j3⟩, bc⟩, nu, ⟨cv, cb, k0, k1, k2, k3⟩, sl⟩ g j).2) ∧ Hid (KGoes W0 w' p A1 ps (K1.told ⟨xk, xf, xv, ⟨bv, ⟨jv, jb, j0, j1, j2, j3⟩, bc⟩, nu, ⟨cv, cb, k0, k1, k2, k3⟩, sl⟩ g j).1)) := fun w' h => ⟨k + 1, goAt go k true, bo && b3, by omega, rfl, by go_num, by show _ = _; rw [HYES.out, ← HBO.out], by show KGoes _ _ _ _ _ _; rw [HYES.out]; exact h⟩
      clear hbt hbm hs2 hg2
      cases hkd : (kd != 4) with
      | true =>
        cases bo with
        | true =>
          go_wp2_with (go_at_call 39; refine HC.out.mono ?_; rintro e w3 ⟨rfl, hg3⟩; have HG3 : Hid (KGoes W0 w3 p A1 ps K3) := hg3; clear hg3)
          go_roundw
          case rel => exact HEND.out _ HG3.out
          case measure => simp [intOf]; omega
        | false =>
          go_wp2_with (go_at_call 39; refine HC.out.mono ?_; rintro e w3 ⟨rfl, hg3⟩; have HG3 : Hid (KGoes W0 w3 p A1 ps K3) := hg3; clear hg3)
          go_roundw
          case rel => exact HEND.out _ HG3.out
          case measure => simp [intOf]; omega
      | false =>
        cases bo with
        | true =>
          go_wp2_with (go_at_call 39; refine HC.out.mono ?_; rintro e w3 ⟨rfl, hg3⟩; have HG3 : Hid (KGoes W0 w3 p A1 ps K3) := hg3; clear hg3)
          all_goals (
            go_roundw
            case rel => first
              | exact HEND.out _ HG3.out
              | exact ⟨k + 1, goAt go k false, true, by omega, rfl, by go_num, by show _ = _; rw [HNO.out]; exact HBO.out, by show KGoes _ _ _ _ _ _; rw [HNO.out]; exact HG.out⟩
            case measure => simp [intOf]; omega)
        | false =>
          go_wp2_with (go_at_call 39; refine HC.out.mono ?_; rintro e w3 ⟨rfl, hg3⟩; have HG3 : Hid (KGoes W0 w3 p A1 ps K3) := hg3; clear hg3)
          all_goals (
            go_roundw
            case rel => first
              | exact HEND.out _ HG3.out
              | exact ⟨k + 1, goAt go k false, false, by omega, rfl, by go_num, by show _ = _; rw [HNO.out]; exact HBO.out, by show KGoes _ _ _ _ _ _; rw [HNO.out]; exact HG.out⟩
            case measure => simp [intOf]; omega)
noncomputable def klyS : Code := ((Tryd.f40.body.bind (fromReg 26))).getD .skip
set_option maxRecDepth 1000000 in
set_option maxHeartbeats 8000000 in
theorem kly_says {y1 y2 y4 y5 y7 y8 y9 y10 y11 y12 y13 y14 y15 y16 y17 y18 y19 y20 y21 y22 y23 y24 y25 y26 y27 y28 y29 y30 y31 y32 y33 y34 y35 y36 y37 y38 y39 y40 y41 y42 y43 y44 y45 y46 y47 y48 y49 y50 y51 y52 y53 y54 y55 y56 y57 y58 y59 y60 y61 y62 y63 y64 y65 y66 y67 y68 y69 y70 y71 y72 y73 y74 y75 y76 y77 y78 y79 y80 y81 y82 y83 y84 y85 y86 y87 y88 y89 y90 y91 y92 y93 y94 y95 y96 y97 y98 y99 y100 y101 y102 y103 y104 y105 y106 y107 y108 y109 y110 y111 y112 y113 y114 y115 y116 y117 y118 y119 y120 y121 y122 y123 y124 y125 y126 y127 y128 y129 y130 y131 y132 y133 y134 y135 y136 y137 y138 y139 y140 y141 y142 y143 y144 y145 y146 y147 y148 y149 y150 y151 y152 y153 y154 y155 y156 y157 y158 y159 y160 y161 y162 y163 y164 y165 y166 y167 y168 y169 y170 y171 y172 y173 y174 y175 y176 y177 y178 y179 y180 y181 y182 y183 : Value} {xk xf xv bv jv j0 j1 j2 j3 cv k0 k1 k2 k3 sl : Int} {jb nu cb : Nat} {bc : ByteArray} {kd sa sb : Int} {p Bt Bm n : Nat} {W0 : World} {A1 : Nat → Nat → Prop} {ps : List (Option Nat)} {K1 : Clu} {Q : Exit → Act → World → Prop}
    (HS : Hid (KSit W0 p A1 ps K1)) (HO : Hid (KOk K1 n)) (hn : n + 1 ≤ 1500000000) (HXO : Hid (Ltr.Ok ⟨-1, ⟨xk, xf, xv, ⟨bv, ⟨jv, jb, j0, j1, j2, j3⟩, bc⟩, nu, ⟨cv, cb, k0, k1, k2, k3⟩, sl⟩⟩))
    (HBT : Hid (W0.heap[Bt]? = some (.cells #[.int .i64 kd, .int .i64 sa, .int .i64 sb] 66 (0, 0)) ∧ W0.heap[Bm]? = some (.cells #[.int .i64 xk, .int .i64 xf, .int .i64 xv, .int .i64 bv, .int .i64 jv, .int .u64 jb, .int .u64 j0, .int .u64 j1, .int .u64 j2, .int .u64 j3, .string bc, .int .u64 nu, .int .i64 cv, .int .u64 cb, .int .u64 k0, .int .u64 k1, .int .u64 k2, .int .u64 k3, .int .u64 sl] 40 (0, 0)) ∧ ¬ UA A1 Bt ∧ ¬ UA A1 Bm))
    (HRE : Hid (∀ {v11 v12 v13 v145 v146 v147 v148 v149 v150 v151 v152 v153 v154 v155 v156 v157 v158 v159 v160 v161 v162 v163 v164 v165 v166 v167 v168 v169 v170 v171 v172 v173 v174 v175 v176 v177 v178 v179 v180 v181 v182 v183 : Value} {w' : World} {go : Nat → Bool} {bo : Bool}, bo = (K1.says ⟨xk, xf, xv, ⟨bv, ⟨jv, jb, j0, j1, j2, j3⟩, bc⟩, nu, ⟨cv, cb, k0, k1, k2, k3⟩, sl⟩ go).2 → KGoes W0 w' p A1 ps (K1.says ⟨xk, xf, xv, ⟨bv, ⟨jv, jb, j0, j1, j2, j3⟩, bc⟩, nu, ⟨cv, cb, k0, k1, k2, k3⟩, sl⟩ go).1 → Q .ret ⟨List.toArray (.pointer (some ⟨p, 0, none⟩) :: y1 :: y2 :: .pointer (some ⟨Bt, 0, none⟩) :: .bool bo :: y5 :: .pointer (some ⟨Bm, 0, none⟩) :: y7 :: y8 :: y9 :: y10 :: v11 :: v12 :: v13 :: y14 :: y15 :: y16 :: y17 :: y18 :: y19 :: y20 :: y21 :: y22 :: y23 :: y24 :: y25 :: y26 :: y27 :: y28 :: y29 :: y30 :: y31 :: y32 :: y33 :: y34 :: y35 :: y36 :: y37 :: y38 :: y39 :: y40 :: y41 :: y42 :: y43 :: y44 :: y45 :: y46 :: y47 :: y48 :: y49 :: y50 :: y51 :: y52 :: y53 :: y54 :: y55 :: y56 :: y57 :: y58 :: y59 :: y60 :: y61 :: y62 :: y63 :: y64 :: y65 :: y66 :: y67 :: y68 :: y69 :: y70 :: y71 :: y72 :: y73 :: y74 :: y75 :: y76 :: y77 :: y78 :: y79 :: y80 :: y81 :: y82 :: y83 :: y84 :: y85 :: y86 :: y87 :: y88 :: y89 :: y90 :: y91 :: y92 :: y93 :: y94 :: y95 :: y96 :: y97 :: y98 :: y99 :: y100 :: y101 :: y102 :: y103 :: y104 :: y105 :: y106 :: y107 :: y108 :: y109 :: y110 :: y111 :: y112 :: y113 :: y114 :: y115 :: y116 :: y117 :: y118 :: y119 :: y120 :: y121 :: y122 :: y123 :: y124 :: y125 :: y126 :: y127 :: y128 :: y129 :: y130 :: y131 :: y132 :: y133 :: y134 :: y135 :: y136 :: y137 :: y138 :: y139 :: y140 :: y141 :: y142 :: y143 :: y144 :: v145 :: v146 :: v147 :: v148 :: v149 :: v150 :: v151 :: v152 :: v153 :: v154 :: v155 :: v156 :: v157 :: v158 :: v159 :: v160 :: v161 :: v162 :: v163 :: v164 :: v165 :: v166 :: v167 :: v168 :: v169 :: v170 :: v171 :: v172 :: v173 :: v174 :: v175 :: v176 :: v177 :: v178 :: v179 :: v180 :: v181 :: v182 :: v183 :: []), []⟩ w')) :
    Code.wp Tryd.prog klyS Q ⟨List.toArray (.pointer (some ⟨p, 0, none⟩) :: y1 :: y2 :: .pointer (some ⟨Bt, 0, none⟩) :: y4 :: y5 :: .pointer (some ⟨Bm, 0, none⟩) :: y7 :: y8 :: y9 :: y10 :: y11 :: y12 :: y13 :: y14 :: y15 :: y16 :: y17 :: y18 :: y19 :: y20 :: y21 :: y22 :: y23 :: y24 :: y25 :: y26 :: y27 :: y28 :: y29 :: y30 :: y31 :: y32 :: y33 :: y34 :: y35 :: y36 :: y37 :: y38 :: y39 :: y40 :: y41 :: y42 :: y43 :: y44 :: y45 :: y46 :: y47 :: y48 :: y49 :: y50 :: y51 :: y52 :: y53 :: y54 :: y55 :: y56 :: y57 :: y58 :: y59 :: y60 :: y61 :: y62 :: y63 :: y64 :: y65 :: y66 :: y67 :: y68 :: y69 :: y70 :: y71 :: y72 :: y73 :: y74 :: y75 :: y76 :: y77 :: y78 :: y79 :: y80 :: y81 :: y82 :: y83 :: y84 :: y85 :: y86 :: y87 :: y88 :: y89 :: y90 :: y91 :: y92 :: y93 :: y94 :: y95 :: y96 :: y97 :: y98 :: y99 :: y100 :: y101 :: y102 :: y103 :: y104 :: y105 :: y106 :: y107 :: y108 :: y109 :: y110 :: y111 :: y112 :: y113 :: y114 :: y115 :: y116 :: y117 :: y118 :: y119 :: y120 :: y121 :: y122 :: y123 :: y124 :: y125 :: y126 :: y127 :: y128 :: y129 :: y130 :: y131 :: y132 :: y133 :: y134 :: y135 :: y136 :: y137 :: y138 :: y139 :: y140 :: y141 :: y142 :: y143 :: y144 :: y145 :: y146 :: y147 :: y148 :: y149 :: y150 :: y151 :: y152 :: y153 :: y154 :: y155 :: y156 :: y157 :: y158 :: y159 :: y160 :: y161 :: y162 :: y163 :: y164 :: y165 :: y166 :: y167 :: y168 :: y169 :: y170 :: y171 :: y172 :: y173 :: y174 :: y175 :: y176 :: y177 :: y178 :: y179 :: y180 :: y181 :: y182 :: y183 :: []), []⟩ W0 := by
  conv => arg 2; whnf
  have q23 := HS.out.over
  cases hov : K1.over with
  | true =>
    have HSY : Hid (∀ go, K1.says ⟨xk, xf, xv, ⟨bv, ⟨jv, jb, j0, j1, j2, j3⟩, bc⟩, nu, ⟨cv, cb, k0, k1, k2, k3⟩, sl⟩ go = (K1, true)) := fun go => by unfold Clu.says; rw [if_pos hov]
    rw [hov] at q23
    go_wp2
    refine HRE.out (go := fun _ => true) ?_ ?_
    · rw [HSY.out]
    · rw [HSY.out]; exact ⟨⟨A1, HS.out, Grow.refl _ _⟩, Fr.refl _ _⟩
  | false =>
    have HSY : Hid (∀ go, K1.says ⟨xk, xf, xv, ⟨bv, ⟨jv, jb, j0, j1, j2, j3⟩, bc⟩, nu, ⟨cv, cb, k0, k1, k2, k3⟩, sl⟩ go = (K1.addL ⟨-1, ⟨xk, xf, xv, ⟨bv, ⟨jv, jb, j0, j1, j2, j3⟩, bc⟩, nu, ⟨cv, cb, k0, k1, k2, k3⟩, sl⟩⟩).told ⟨xk, xf, xv, ⟨bv, ⟨jv, jb, j0, j1, j2, j3⟩, bc⟩, nu, ⟨cv, cb, k0, k1, k2, k3⟩, sl⟩ go 4) := fun go => by
      show _ = _
      unfold Clu.says
      rw [if_neg (by rw [hov]; decide)]
      exact told_tells _ _ _
    rw [hov] at q23
    obtain ⟨al, cl, a7, c7, w7, hrun, hap⟩ := HS.out.k.appL ⟨-1, ⟨xk, xf, xv, ⟨bv, ⟨jv, jb, j0, j1, j2, j3⟩, bc⟩, nu, ⟨cv, cb, k0, k1, k2, k3⟩, sl⟩⟩ (by have := HO.out.len.lt; omega)
    have q2 := hap.c0
    have q2a := hap.ca
    have q7 := hap.c1
    have fz7 := hap.f1
    have hlw : (rowVar 40 ⟨Bm, 0, none⟩).run Tryd.prog W0.drew = .ok (.agg #[.int .i64 xk, .int .i64 xf, .int .i64 xv, .int .i64 bv, .int .i64 jv, .int .u64 jb, .int .u64 j0, .int .u64 j1, .int .u64 j2, .int .u64 j3, .string bc, .int .u64 nu, .int .i64 cv, .int .u64 cb, .int .u64 k0, .int .u64 k1, .int .u64 k2, .int .u64 k3, .int .u64 sl]) W0.drew := rowVar_whole _ Bm 40 40 _ (0, 0) _ HBT.out.2.1 Tryd.underlying40 rfl (by kernel_rfl)
    obtain ⟨S5, hM5, hG5, hF5⟩ := hap.ex
    have HKS : Hid (KSit (w7.setCell ⟨p, 2, none⟩ (.slice a7 (K1.letters.length + 1) c7)) p (updA A1 0 S5) ps (K1.addL ⟨-1, ⟨xk, xf, xv, ⟨bv, ⟨jv, jb, j0, j1, j2, j3⟩, bc⟩, nu, ⟨cv, cb, k0, k1, k2, k3⟩, sl⟩⟩)) := HS.out.clu hM5 rfl hG5 hF5
    have HGU : Hid (Grow (UA A1) W0 (UA (updA A1 0 S5)) ∧ Fr (UA A1) W0 (w7.setCell ⟨p, 2, none⟩ (.slice a7 (K1.letters.length + 1) c7))) := ⟨grow_u (i := 0) hG5, fr_u (i := 0) (by omega) hF5⟩
    dsimp only [Ltr.cells, Msg.cells] at hrun
    clear hap hM5 hG5 hF5
    go_upto_region 28 with fail
    refine kly_r28 hrun q2 q2a q7 fz7 hlw ?_
    intro a149 a150 a151 a152 a153 a154 a155 a156 a157 a158 a159
    simp only [Exit.then]
    clear hrun q2 q2a q7 fz7 hlw q23
    generalize w7.setCell ⟨p, 2, none⟩ (.slice a7 (K1.letters.length + 1) c7) = WN at HKS HGU ⊢
    have HO2 : Hid (KOk (K1.addL ⟨-1, ⟨xk, xf, xv, ⟨bv, ⟨jv, jb, j0, j1, j2, j3⟩, bc⟩, nu, ⟨cv, cb, k0, k1, k2, k3⟩, sl⟩⟩) (n + 1)) := ⟨addL_ok HO.out.ok _, ⟨by have := HO.out.len.lt; simp [Clu.addL]; omega, Nat.le_succ_of_le HO.out.len.ct, Nat.le_succ_of_le HO.out.len.vt, Nat.le_succ_of_le HO.out.len.bl⟩, fun l hl => by
      rcases List.mem_append.1 hl with h1 | h1
      · exact HO.out.lt l h1
      · obtain rfl := List.mem_singleton.1 h1
        exact HXO.out, HO.out.ml, fun m hm => (HO.out.ms m hm).mono (by omega), fun k => Nat.le_succ_of_le (HO.out.wl k)⟩
    have HBX : Hid (∀ W, Fr (UA (updA A1 0 S5)) WN W → W.heap[Bt]? = some (.cells #[.int .i64 kd, .int .i64 sa, .int .i64 sb] 66 (0, 0)) ∧ W.heap[Bm]? = some (.cells #[.int .i64 xk, .int .i64 xf, .int .i64 xv, .int .i64 bv, .int .i64 jv, .int .u64 jb, .int .u64 j0, .int .u64 j1, .int .u64 j2, .int .u64 j3, .string bc, .int .u64 nu, .int .i64 cv, .int .u64 cb, .int .u64 k0, .int .u64 k1, .int .u64 k2, .int .u64 k3, .int .u64 sl] 40 (0, 0))) := fun W hW => by
      have key : ∀ B ob, W0.heap[B]? = some ob → ¬ UA A1 B → W.heap[B]? = some ob := fun B ob hB hn => by
        have hlt := lt_at hB
        have hn2 : ¬ UA (updA A1 0 S5) B := fun h => by
          rcases HGU.out.1 B h with h1 | h1
          · exact hn h1
          · omega
        exact (hW.block B (Nat.lt_of_lt_of_le hlt HGU.out.2.size) hn2).trans ((HGU.out.2.block B hlt hn).trans hB)
      exact ⟨key Bt _ HBT.out.1 HBT.out.2.2.1, key Bm _ HBT.out.2.1 HBT.out.2.2.2⟩
    go_wp2
    refine kly_loop HKS HO2 hn HXO.out.1 HBX ?_
    intro b12 b13 b160 b161 b162 b163 b164 b165 b166 b167 b168 b169 b170 b171 b172 b173 b174 b175 b176 b177 b178 b179 b180 b181 b182 w' go bo hbo hgo
    simp only [Exit.inBlock, Exit.then]
    have HB2 : Hid (bo = (K1.says ⟨xk, xf, xv, ⟨bv, ⟨jv, jb, j0, j1, j2, j3⟩, bc⟩, nu, ⟨cv, cb, k0, k1, k2, k3⟩, sl⟩ go).2) := by show _ = _; rw [HSY.out]; exact hbo
    have HG2 : Hid (KGoes W0 w' p A1 ps (K1.says ⟨xk, xf, xv, ⟨bv, ⟨jv, jb, j0, j1, j2, j3⟩, bc⟩, nu, ⟨cv, cb, k0, k1, k2, k3⟩, sl⟩ go).1) := by show KGoes _ _ _ _ _ _; rw [HSY.out]; exact hgo.trans HGU.out.1 HGU.out.2
    clear hbo hgo
    go_wp2
    exact HRE.out HB2.out HG2.out
end Go.Proofs.YtkehpnobidendaaDoor

namespace Go.Proofs.YtkehpnobidendaaDoor
open Go.RowKit
theorem put_msgK (a : Addr) (v : Value) : storeVar 40 a v = rowPut 40 a v := rfl
/-- A new block, written over. -/
def fillA (c : Array Value) : Nat → List Value → Array Value
  | _, [] => c
  | o, v :: r => fillA (c.setIfInBounds o v) (o + 1) r
theorem setCells_new (w : World) (T : TypeId) : ∀ (vs : List Value) (o : Nat) (c : Array Value), (w.alloc (.cells c T)).setCells w.heap.size o vs = w.alloc (.cells (fillA c o vs) T)
  | [], _, _ => rfl
  | v :: r, o, c => by rw [World.setCells, World.setCell_alloc_new, setCells_new w T r (o + 1)]; rfl
theorem fill19 (a0 a1 a2 a3 a4 a5 a6 a7 a8 a9 a10 a11 a12 a13 a14 a15 a16 a17 a18 z0 z1 z2 z3 z4 z5 z6 z7 z8 z9 z10 z11 z12 z13 z14 z15 z16 z17 z18 : Value) : fillA #[z0, z1, z2, z3, z4, z5, z6, z7, z8, z9, z10, z11, z12, z13, z14, z15, z16, z17, z18] 0 [a0, a1, a2, a3, a4, a5, a6, a7, a8, a9, a10, a11, a12, a13, a14, a15, a16, a17, a18] = #[a0, a1, a2, a3, a4, a5, a6, a7, a8, a9, a10, a11, a12, a13, a14, a15, a16, a17, a18] := by kernel_rfl
theorem start19 (w : World) (cs : Array Value) (hc : cs.size = 19) (T : TypeId) : (w.alloc (.cells cs T)).there w.heap.size 0 19 := fun j hj => by
  have hn := heap_alloc_new w (.cells cs T)
  refine ⟨?_, free_at hn _⟩
  rw [cell_at hn]
  simp; omega
theorem below_one {n : Nat} {w V w' : World} {b : Nat} (h : Below n w V) (hf : Fr (fun k => k = b) V w') (hb : n ≤ b) (hn : n ≤ V.heap.size) : Below n w w' :=
  ⟨hf.os.trans h.os, hf.tape.trans h.tape, hf.output.trans h.output, Nat.le_trans h.size hf.size, fun k hk => (hf.block k (Nat.lt_of_lt_of_le hk hn) (fun e => by omega)).trans (h.block k hk)⟩
end Go.Proofs.YtkehpnobidendaaDoor
