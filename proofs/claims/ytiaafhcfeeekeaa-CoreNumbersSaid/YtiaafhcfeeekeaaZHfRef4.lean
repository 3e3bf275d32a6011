/- The change's locate. -/
import Derived.Test.YtiaafhcfeeekeaaZCoSeek
import Derived.Test.YtiaafhcfeeekeaaZCoAcqM
import Derived.Test.YtiaafhcfeeekeaaZHfPush
namespace Go.Proofs.Ytiaafhcfeeekeaa.Pk
open Go.RowKit Go.Proofs.Ytiaafhcfeeekeaa.Gr
set_option linter.unusedVariables false
theorem loc_mid {ps : List Int} {s : St} {k : Nat} (h : GoodS ps s) (hk : k < s.os.length) (h4 : ¬ 4 ≤ s.as_.length) (hM : ¬ s.q = 1099511627776) :
    GoodS ps { s with q := s.q + 1, as_ := s.as_ ++ [⟨(k : Int), s.q + 1⟩] } ∧ MeantS (ps.length : Int) (s.os.length : Int) ⟨3, (k : Int), s.me, s.q + 1, 0⟩ := by
  have hq := h.q
  obtain ⟨g1, g2, g3, g4⟩ := good_parts.1 h
  refine ⟨good_parts.2 ⟨g1, g2, g3, ⟨by show 0 ≤ s.q + 1; omega, by show s.q + 1 ≤ _; omega⟩, ?_, h.gn, ?_, fun f hf => ?_⟩, ⟨by show (0 : Int) ≤ (k : Int); omega, by show (k : Int) < (s.os.length : Int); omega, g1.1, g1.2, by show (0 : Int) ≤ 0; omega, by show (0 : Int) < _; have := g1; unfold IsMe at this; omega⟩⟩
  · show (s.as_ ++ [_]).length ≤ 4
    rw [List.length_append, List.length_singleton]; omega
  · refine asks_snoc (q := s.q) (q' := s.q + 1) (a := ⟨(k : Int), s.q + 1⟩) (by omega) ⟨by show (0 : Int) ≤ (k : Int); omega, by show (k : Int) < (s.os.length : Int); omega⟩ (Int.le_refl _) h.as_ (fun b hb => ?_) (by show 0 < s.q + 1; omega)
    have := asks_mem h.as_ b hb
    show b.n < s.q + 1
    omega
  · have h9 := h.gs f hf
    exact ⟨h9.1, ⟨h9.2.1.1, by show f.n ≤ s.q + 1; have := h9.2.1.2; omega⟩, h9.2.2⟩
set_option maxRecDepth 100000 in
set_option maxHeartbeats 8000000 in
theorem locate_any {w : World} {B p T g : Nat} {ps : List Int} {s : StL} (h : Chg w B p T g ps s) (G : Gr.Good ps) (hg : GoodS ps s.v) {k : Nat} (hk : k < s.v.os.length) :
    Calls Try.prog 45 #[.pointer (some ⟨p, 0, none⟩), .int .i64 (k : Int)] w fun e w' => ∃ s2, e = .returned (.tuple #[.int .i64 (locS ps s.v k).2.1, .int .i64 (locS ps s.v k).2.2]) ∧ ChgX w' B p T s2 ∧ s2.v = (locS ps s.v k).1 ∧ Below B w w' := by
  have HB : Hid (B ≤ w.heap.size) := Lib.hid h.sz
  have HC0 := Lib.hid h
  have HGo := Lib.hid hg
  have HG := Lib.hid G
  have HKl := Lib.hid hk
  obtain ⟨q0, hq0⟩ : ∃ q, q = s.q := ⟨_, rfl⟩
  have HQ0 := Lib.hid hq0
  obtain ⟨me, hme⟩ : ∃ me, me = s.me := ⟨_, rfl⟩
  have HMe := Lib.hid hme
  obtain ⟨A, n, c, hsa⟩ : ∃ A n c, s.sa = ⟨A, n, c⟩ := ⟨_, _, _, rfl⟩
  have HSa := Lib.hid hsa
  have hal : s.as_.length = n := by have := (Row.Own.rd h.own.as_).1; rw [hsa] at this; exact this
  have HAl := Lib.hid hal
  have hn4 : n ≤ 4 := by have := hg.an; rw [← hal]; exact this
  have hbx := h.box
  rw [hsa, ← hq0, ← hme] at hbx
  have HBx := Lib.hid hbx
  simp only [Sl.val] at hbx
  have x1 : w.cell? ⟨p, 1, none⟩ = some (.int .i64 me) := hbx.cell 1
  have x4 : w.cell? ⟨p, 4, none⟩ = some (.int .i64 q0) := hbx.cell 4
  have x5 : w.cell? ⟨p, 5, none⟩ = some (.slice A n c) := hbx.cell 5
  have xf := hbx.frozen
  have hqr : 0 ≤ q0 ∧ q0 ≤ 1099511627776 := by have := hg.q; rw [hq0]; exact this
  obtain ⟨S, hS⟩ : ∃ S, S = locS ps s.v k := ⟨_, rfl⟩
  rw [← hS]
  have HS := Lib.hid hS
  obtain ⟨Ss, Sn, Se⟩ := S
  clear h hg G hk hq0 hme hsa hal hbx hS
  by_cases h4 : n = 4
  · have t1 : ((n : Int) == 4) = true := by simp; omega
    have HE : Hid ((Ss, Sn, Se) = (s.v, 0, 21)) := Lib.hid (by rw [HS.out]; unfold locS; rw [if_pos (by show 4 ≤ s.as_.length; rw [HAl.out]; omega)])
    clear h4
    go_enter Try.func45, Try.ntmps45
    go_wp2
    go_ret2
    have e1 := HE.out
    injection e1 with e1 e2
    injection e2 with e2 e3
    exact ⟨s, by rw [e2, e3]; rfl, HC0.out.x, e1.symm, Below.refl _ _⟩
  have t1 : ((n : Int) == 4) = false := by simp; omega
  by_cases hM : q0 = 1099511627776
  · have t2 : (q0 == 1099511627776) = true := by simpa using hM
    have HE : Hid ((Ss, Sn, Se) = (s.v, 0, 23)) := Lib.hid (by rw [HS.out]; unfold locS; rw [if_neg (by show ¬ 4 ≤ s.as_.length; rw [HAl.out]; omega), if_pos (by show s.q = _; rw [← HQ0.out]; exact hM)])
    clear h4 hM
    go_enter Try.func45, Try.ntmps45
    go_wp2
    go_ret2
    have e1 := HE.out
    injection e1 with e1 e2
    injection e2 with e2 e3
    exact ⟨s, by rw [e2, e3]; rfl, HC0.out.x, e1.symm, Below.refl _ _⟩
  have t2 : (q0 == 1099511627776) = false := by simpa using hM
  obtain ⟨q1, hq1⟩ : ∃ q1, q1 = q0 + 1 := ⟨_, rfl⟩
  have HQ1 := Lib.hid hq1
  have t3 : IntKind.i64.wrap (q0 + 1) = q1 := by rw [IntWalk.i64_in _ (by omega), hq1]
  have hnl : ¬ 4 ≤ s.v.as_.length := by show ¬ 4 ≤ s.as_.length; rw [HAl.out]; omega
  have hnq : ¬ s.v.q = 1099511627776 := by show ¬ s.q = _; rw [← HQ0.out]; exact hM
  have hmid := loc_mid HGo.out HKl.out hnl hnq
  have hqe : s.v.q + 1 = q1 := by rw [hq1, HQ0.out]; rfl
  rw [hqe, show s.v.me = me from HMe.out.symm] at hmid
  have HE : Hid ((Ss, Sn, Se) = ((seekS ps { s.v with q := q1, as_ := s.as_ ++ [⟨(k : Int), q1⟩] } ⟨3, (k : Int), me, q1, 0⟩).1, q1, (seekS ps { s.v with q := q1, as_ := s.as_ ++ [⟨(k : Int), q1⟩] } ⟨3, (k : Int), me, q1, 0⟩).2)) := Lib.hid (by
    have hme2 : me = s.v.me := HMe.out
    rw [HS.out, hme2]; unfold locS; rw [if_neg hnl, if_neg hnq, hqe]; rfl)
  have HMid := Lib.hid hmid
  have hq1r : 1 ≤ q1 ∧ q1 ≤ 1099511627776 := by omega
  have HQr := Lib.hid hq1r
  obtain ⟨w2, hw2⟩ : ∃ W, W = w.setCell ⟨p, 4, none⟩ (.int .i64 q1) := ⟨_, rfl⟩
  have hpq := HC0.out.putQ q1
  rw [← hw2] at hpq
  obtain ⟨hC2, hB2⟩ := hpq
  have HC2 := Lib.hid hC2
  have HB2 := Lib.hid hB2
  have HBx2 : Hid (Blk w2 p 71 #[.pointer (some ⟨T, 0, none⟩), .int .i64 me, s.so.val, s.se.val, .int .i64 q1, .slice A n c, s.sg.val]) := Lib.hid (by have := hC2.box; rw [show ({s with q := q1} : StL).sa = _ from HSa.out, show ({s with q := q1} : StL).me = me from HMe.out.symm] at this; exact this)
  obtain ⟨w25, hw25⟩ : ∃ W, W = w2.alloc (.cells #[.int .i64 (k : Int), .int .i64 q1] 59) := ⟨_, rfl⟩
  have hb25 : Below w2.heap.size w2 w25 := hw25 ▸ (Below.refl _ _).alloc (Nat.le_refl _) _
  have HB25 := Lib.hid hb25
  have hs2 : w2.heap.size = w.heap.size := by rw [hw2, setc_size]
  have HR25 : Hid (Reads w25 (w.heap.size + 1) akR.k (some ⟨w.heap.size, 0, none⟩) 1 (akR.cells [⟨(k : Int), q1⟩])) := Lib.hid (by rw [hw25, ← hs2]; exact Row.reads_new akR w2 _ _ [⟨(k : Int), q1⟩] rfl)
  have HO25 : Hid (akR.Own w25 B (.slice A n c) s.as_) := Lib.hid (by have := (hC2.below hb25).own.as_; rw [show ({s with q := q1} : StL).sa = _ from HSa.out] at this; exact this)
  have HNp : Hid (ownB (.slice A n c) ≠ some p) := Lib.hid (by have := HC0.out.np s.sa.val (mem_stV.2 (by simp)); rw [HSa.out] at this; exact this)
  have HW2 := Lib.hid hw2
  have HW25 := Lib.hid hw25
  clear hs2 h4 hM hq1 hnl hnq hmid hqe hw2 hC2 hB2 hw25 hb25 hqr hq1r
  go_enter Try.func45, Try.ntmps45
  go_wp2_with (at_builtin; go_loud (rw [← HW2.out]; rw [← HW25.out]; refine Row.app akR w25 rfl (.tmp 41) (.tmp 45) rfl B (.slice A n c) s.as_ rfl HO25.out (w.heap.size + 1) (some ⟨w.heap.size, 0, none⟩) 1 [⟨(k : Int), q1⟩] 1 rfl HR25.out (by have h1 := HAl.out; show (s.as_.length + 1) * 16 ≤ _; omega) (Nat.le_trans HC2.out.sz HB25.out.size) ?_; intro v3 w3 hown hgb hlies; obtain ⟨A5, k5, hv5⟩ := Row.Own.sl hown; have HV5 := Lib.hid hv5; subst hv5; have HOw := Lib.hid hown; have HGb := Lib.hid hgb; have HLi := Lib.hid hlies; have hbx3 := (HGb.out.block p (Nat.lt_of_lt_of_le HC2.out.lt HB25.out.size) (fun e => HNp.out e.symm)).trans (HBx2.out.below HB25.out HBx2.out.lt); have HBx3 : Hid (Blk w3 p 71 #[.pointer (some ⟨T, 0, none⟩), .int .i64 me, s.so.val, s.se.val, .int .i64 q1, .slice A n c, s.sg.val]) := Lib.hid hbx3; have z5 : w3.cell? ⟨p, 5, none⟩ = some (.slice A n c) := HBx3.out.cell 5; have z1 : w3.cell? ⟨p, 1, none⟩ = some (.int .i64 me) := HBx3.out.cell 1; have zf := HBx3.out.frozen; clear hown hgb hlies hbx3 x1 x4 x5 xf))
  obtain ⟨w4, hw4⟩ : ∃ W, W = w3.setCell ⟨p, 5, none⟩ (.slice A5 (s.as_.length + 1) k5) := ⟨_, rfl⟩
  have hvs : ({s with q := q1} : StL).sa.val = .slice A n c := by show s.sa.val = _; rw [HSa.out]; rfl
  have hput := HC2.out.putA (w1 := w3) (v' := ⟨A5, s.as_.length + 1, k5⟩) (l' := s.as_ ++ [(⟨(k : Int), q1⟩ : Ak)]) (by have := HOw.out; rw [List.length_append, List.length_singleton] at this; exact this)
    (fun x hx hl => by rw [hvs] at hx; exact (HGb.out.block x (Nat.lt_of_lt_of_le hl HB25.out.size) (fun e => hx e.symm)).trans (HB25.out.block x hl))
    ((HB25.out.mono HC2.out.sz).trans ⟨HGb.out.os, HGb.out.tape, HGb.out.output, HGb.out.size, fun x hx => HGb.out.block x (Nat.lt_of_lt_of_le hx (Nat.le_trans HC2.out.sz HB25.out.size)) (fun e => by have := HO25.out.base x e.symm; omega)⟩)
    (by rw [hvs]; have := HLi.out; rw [List.length_append, List.length_singleton] at this; exact this.imp id (Or.imp id fun ⟨x, e, hx⟩ => ⟨x, e, Nat.le_trans HB25.out.size hx⟩))
  simp only [Sl.val] at hput
  rw [← hw4] at hput
  obtain ⟨hC4, hB4⟩ := hput
  have HC4 := Lib.hid hC4
  have HB4 := Lib.hid hB4
  have HSk : Hid (Calls Try.prog 63 #[.pointer (some ⟨p, 0, none⟩), .agg #[.int .i64 3, .int .i64 (k : Int), .int .i64 me, .int .i64 q1, .int .i64 0]] w4 fun e w' => ∃ s2, e = .returned (.int .i64 (seekS ps { s.v with q := q1, as_ := s.as_ ++ [⟨(k : Int), q1⟩] } ⟨3, (k : Int), me, q1, 0⟩).2) ∧ ChgX w' B p T s2 ∧ s2.v = (seekS ps { s.v with q := q1, as_ := s.as_ ++ [⟨(k : Int), q1⟩] } ⟨3, (k : Int), me, q1, 0⟩).1 ∧ Below B w4 w') := Lib.hid (by
    have hme2 : s.v.me = me := HMe.out.symm
    have hmr := HGo.out.me
    rw [hme2] at hmr
    have hf := HG.out.few
    have hkl := HKl.out
    have h8 := HGo.out.many.2
    have hq := HQr.out
    refine seek_any HC4.out HG.out ?_ (m := ⟨3, (k : Int), me, q1, 0⟩) ⟨by simp, by constructor <;> (simp only; omega), by constructor <;> (simp only; omega), by constructor <;> (simp only; omega), by simp⟩ HMid.out.2
    have h1 := HMid.out.1
    rw [← hme2] at h1
    exact h1)
  rw [← hw4]
  clear hw4 hvs hC4 hB4 z1 z5 zf
  refine HSk.out.mono ?_
  rintro e w5 ⟨s2, rfl, hc, hv, hb⟩
  have HC5 := Lib.hid hc
  have HV5 := Lib.hid hv
  have HB5 := Lib.hid hb
  clear hc hv hb
  go_wp2
  go_ret2
  have e1 := HE.out
  injection e1 with e1 e2
  injection e2 with e2 e3
  exact ⟨s2, by rw [e2, e3]; rfl, HC5.out, by rw [HV5.out, ← e1], (HB2.out.trans HB4.out).trans HB5.out⟩
end Go.Proofs.Ytiaafhcfeeekeaa.Pk

/- The change's found and message: what a neighbour's message asks. -/
namespace Go.Proofs.Ytiaafhcfeeekeaa.Pk
open Go.RowKit Go.Proofs.Ytiaafhcfeeekeaa.Gr
set_option linter.unusedVariables false
attribute [local go_sem] Oper.semAt_some
/-- The state behind a Find that stops here. -/
theorem find_mid {ps : List Int} (G : Gr.Good ps) {s : St} {from_ : Int} {m : Mg} {k : Nat} (h : GoodS ps s) (hf : from_ ∈ nbsI ps s.me) (hb : m.Be) (hk : k < s.os.length) (hm : MeantS (ps.length : Int) (s.os.length : Int) m) (hn : m.n ≠ s.me) (ha : (objA s k).a = s.me) :
    GoodS ps (setO s k ⟨from_, (objA s k).m, (succK (objA s k).c m.n m.u).1⟩) := by
  have ho := h.os _ (obj_mem hk)
  have hne := (nbs_ne G hf).2
  have hg := ho.2.2.1
  rw [decide_eq_true ha] at hg
  have hn32 := G.few
  have hst := stayG_far (far := m.n) (x := m.u) hg ⟨hm.2.2.1, by have := hm.2.2.2.1; omega⟩ hn ⟨hb.2.2.2.2.2.2.1, hb.2.2.2.2.2.2.2.1⟩
  refine good_setO h ⟨.inr hf, ho.2.1, by rw [decide_eq_false hne]; exact hst, fun c hc => ?_⟩ hk ?_
  · obtain ⟨c0, h0, e1, _, e2⟩ := mem_succ hc
    have h9 := ho.2.2.2 c0 h0
    refine ⟨by rw [e1]; exact h9.1, ?_⟩
    rcases e2 with e2 | e2
    · rw [e2]; exact h9.2
    · rw [e2]; exact hm.2.2.2.1
  · show sumK s.os + openK (succK _ _ _).1 ≤ _
    rw [openK_succ]
    have := h.few
    omega
theorem findS_T {ps : List Int} {s : St} {f : Int} {m : Mg} {k : Nat} (hk : m.o = (k : Int)) (hn : m.n ≠ s.me) :
    findS ps s f m = if (findT s k f m).2.1 = true then towardS ps (findT s k f m).1 ⟨2, m.o, m.n, m.u, 0⟩ else ((findT s k f m).1, (findT s k f m).2.2) := by
  have e : m.o.toNat = k := by omega
  unfold findS findT
  rw [if_neg hn, e]
  by_cases ha : (objA s k).a ≠ s.me
  · rw [if_pos ha, if_pos ha]; simp
  · rw [if_neg ha, if_neg ha]
theorem findT_zero {s : St} {f : Int} {m : Mg} {k : Nat} (h : (findT s k f m).2.1 = true) : (findT s k f m).2.2 = 0 ∧ (objA s k).a = s.me ∧ (findT s k f m).1 = setO s k ⟨f, (objA s k).m, (succK (objA s k).c m.n m.u).1⟩ := by
  unfold findT at h ⊢
  by_cases ha : (objA s k).a ≠ s.me
  · rw [if_pos ha] at h; cases h
  · rw [if_neg ha]; exact ⟨rfl, Classical.byContradiction ha, rfl⟩
set_option maxRecDepth 100000 in
theorem pass_pure (mk mo mn mu mv : Int) (w : World) : Calls Try.prog 101 #[.agg #[.int .i64 mk, .int .i64 mo, .int .i64 mn, .int .i64 mu, .int .i64 mv]] w fun e w' => e = .returned (.agg #[.int .i64 2, .int .i64 mo, .int .i64 mn, .int .i64 mu, .int .i64 mv]) ∧ Below w.heap.size w w' := by
  go_enter Try.func101, Try.ntmps101
  go_wp2
  refine bodyPost_ret (v := .agg #[.int .i64 2, .int .i64 mo, .int .i64 mn, .int .i64 mu, .int .i64 mv]) (by simp [results, Try.f101, go_sem]) rfl ⟨rfl, ?_⟩
  exact ((Below.refl _ _).alloc (Nat.le_refl _) _).alloc (by rw [World.size_alloc]; omega) _
set_option maxRecDepth 100000 in
set_option maxHeartbeats 8000000 in
theorem found_any {w : World} {B p T g : Nat} {ps : List Int} {s : StL} (h : Chg w B p T g ps s) (G : Gr.Good ps) (hg : GoodS ps s.v) {m : Mg} {f : Int} (hm : m.I) (hb : m.Be) (h1k : m.k = 1) (hM : MeantS (ps.length : Int) (s.v.os.length : Int) m) (hf : f ∈ nbsI ps s.v.me) :
    Calls Try.prog 89 #[.pointer (some ⟨p, 0, none⟩), m.val, .int .i64 f] w fun e w' => ∃ s2, e = .returned (.int .i64 (findS ps s.v f m).2) ∧ ChgX w' B p T s2 ∧ s2.v = (findS ps s.v f m).1 ∧ Below B w w' := by
  obtain ⟨q, hq⟩ : ∃ q, q = w.heap.size := ⟨_, rfl⟩
  obtain ⟨W1, hW1⟩ : ∃ W, W = w.alloc (.cells m.val.cells 30) := ⟨_, rfl⟩
  have hb1 : Below w.heap.size w W1 := hW1 ▸ (Below.refl _ _).alloc (Nat.le_refl _) _
  have h1 := h.below hb1
  have HQ : Hid (Blk W1 q 30 m.val.cells) := Lib.hid (by rw [hW1, hq]; exact Blk.new w _ _)
  have HB : Hid (B ≤ w.heap.size) := Lib.hid h.sz
  have HPq : Hid (p < q) := Lib.hid (by rw [hq]; exact h.lt)
  have HNq : Hid (∀ u ∈ stV s, ownB u ≠ some q) := Lib.hid (fun u hu e => by have := (h.own.mem u hu q e).2; omega)
  have HB1 := Lib.hid hb1
  have HC1 := Lib.hid h1
  have HGo := Lib.hid hg
  have HM := Lib.hid hM
  have HI := Lib.hid hm
  have HBe := Lib.hid hb
  have HG := Lib.hid G
  have HF := Lib.hid hf
  have HV0 : Hid (m.v = 0) := Lib.hid (hb.2.2.2.2.2.2.2.2.2 (by omega))
  obtain ⟨me, hme⟩ : ∃ me, me = s.me := ⟨_, rfl⟩
  have HMe := Lib.hid hme
  have hol : s.os.length = s.v.os.length := by simp [StL.v]
  have HOl := Lib.hid hol
  obtain ⟨R, hR⟩ : ∃ R, R = findS ps s.v f m := ⟨_, rfl⟩
  have HR := Lib.hid hR
  obtain ⟨Rs, Re⟩ := R
  rw [← hR]
  clear h h1 hb1 hg hM hm hol hR G hme hb hf h1k
  obtain ⟨mk, mo, mn, mu, mv⟩ := m
  obtain ⟨k, rfl⟩ : ∃ k : Nat, mo = (k : Int) := ⟨mo.toNat, by have h1 := HM.out.1; simp only at h1; omega⟩
  have hk : k < s.os.length := by have h2 := HM.out.2.1; have h3 := HOl.out; simp only at h2; omega
  obtain ⟨o, ho, hov⟩ := own_at hk
  obtain ⟨o1, o2, o3⟩ := good_own HG.out HGo.out hov
  have HO := Lib.hid ho
  have HA : Hid (objA s.v k = o.v) := Lib.hid (obj_at ho)
  have hgp := good_parts.1 HGo.out
  have HFi : Hid (∀ W, Below W1.heap.size W1 W → Calls Try.prog 58 #[.pointer (some ⟨p, 0, none⟩), .agg #[.int .i64 mk, .int .i64 (k : Int), .int .i64 mn, .int .i64 mu, .int .i64 mv], .int .i64 f] W fun e w' => ∃ s2, e = .returned (.tuple #[.bool (findT s.v k f ⟨mk, (k : Int), mn, mu, mv⟩).2.1, .int .i64 (findT s.v k f ⟨mk, (k : Int), mn, mu, mv⟩).2.2]) ∧ Chg w' B p T g ps s2 ∧ s2.v = (findT s.v k f ⟨mk, (k : Int), mn, mu, mv⟩).1 ∧ Below B W w' ∧ Frm W w' p s ∧ s2.so = s.so ∧ Sub W s s2) := Lib.hid (fun W hW => find_any (HC1.out.below hW) HG.out hgp.2.2.1 (m := ⟨mk, (k : Int), mn, mu, mv⟩) ho rfl HI.out o1 o2 (HGo.out.os o.v hov).1 (by have h1 := (Row.Own.rd HC1.out.own.os.row).1; have h2 := HGo.out.many.2; have h3 := HOl.out; omega))
  obtain ⟨F, hF⟩ : ∃ F, F = findT s.v k f ⟨mk, (k : Int), mn, mu, mv⟩ := ⟨_, rfl⟩
  rw [← hF] at HFi
  have HFe := Lib.hid hF
  obtain ⟨Fs, Fb, Fe⟩ := F
  clear hF o1 o2 o3 hov ho hgp hk
  simp only [Mg.val, Value.cells] at HQ hW1 ⊢
  have HX : Hid (∀ W, Below W1.heap.size W1 W → W.cell? ⟨p, 1, none⟩ = some (.int .i64 me) ∧ W.cell? ⟨q, 0, none⟩ = some (.int .i64 mk) ∧ W.cell? ⟨q, 1, none⟩ = some (.int .i64 (k : Int)) ∧ W.cell? ⟨q, 2, none⟩ = some (.int .i64 mn) ∧ W.cell? ⟨q, 3, none⟩ = some (.int .i64 mu) ∧ W.cell? ⟨q, 4, none⟩ = some (.int .i64 mv)) := Lib.hid (fun W hW => by
    have hq := HQ.out.below hW HQ.out.lt
    have hp := (HC1.out.below hW).box
    exact ⟨by rw [HMe.out]; exact hp.cell 1, hq.cell 0, hq.cell 1, hq.cell 2, hq.cell 3, hq.cell 4⟩)
  obtain ⟨x1, y0, y1, y2, y3, y4⟩ := HX.out W1 (Below.refl _ _)
  by_cases hn : mn = me
  · have t1 : (mn == me) = true := by simpa using hn
    have HE : Hid ((Rs, Re) = (s.v, 0)) := Lib.hid (by rw [HR.out]; unfold findS; rw [if_pos (by show mn = s.me; rw [hn, HMe.out])])
    clear hn
    go_enter Try.func89, Try.ntmps89
    go_wp2_with fail
    rw [← hW1, ← hq]
    clear hW1 hq
    go_quiet (fail)
    revert nq; intro nq1
    obtain ⟨V, hV⟩ : ∃ V, V = W1.drewN nq1 := ⟨_, rfl⟩
    have hb2 : Below W1.heap.size W1 V := hV ▸ below_drewC (Below.refl _ _) _
    have HB2 := Lib.hid hb2
    rw [← hV]
    clear hV
    clear x1 y0 y1 y2 y3 y4
    obtain ⟨x1, y0, y1, y2, y3, y4⟩ := HX.out V hb2
    clear hb2
    go_wp2
    go_ret
    have e1 := HE.out
    injection e1 with e1 e2
    exact ⟨s, by rw [e2]; rfl, (HC1.out.below HB2.out).x, e1.symm, (HB1.out.mono HB.out).trans (HB2.out.mono (Nat.le_trans HB.out HB1.out.size))⟩
  · have t1 : (mn == me) = false := by simpa using hn
    have hnm : mn ≠ s.v.me := fun e => hn (by rw [HMe.out]; exact e)
    have HS := Lib.hid (findS_T (ps := ps) (s := s.v) (f := f) (m := ⟨mk, (k : Int), mn, mu, mv⟩) (k := k) rfl hnm)
    rw [← HFe.out] at HS
    have HNm := Lib.hid hnm
    clear hn hnm
    cases Fb with
    | true =>
      have hz := findT_zero (s := s.v) (k := k) (f := f) (m := ⟨mk, (k : Int), mn, mu, mv⟩) (by rw [← HFe.out])
      rw [← HFe.out] at hz
      obtain ⟨z1, z2, z3⟩ := hz
      simp only at z1
      subst z1
      have HZ2 := Lib.hid z2
      have HZ3 := Lib.hid z3
      clear z2 z3
      have HE : Hid ((Rs, Re) = towardS ps Fs ⟨2, (k : Int), mn, mu, 0⟩) := Lib.hid (by rw [HR.out, HS.out]; rfl)
      go_enter Try.func89, Try.ntmps89
      go_wp2_with fail
      rw [← hW1, ← hq]
      clear hW1 hq
      go_quiet (fail)
      revert nq; intro nq1
      obtain ⟨V, hV⟩ : ∃ V, V = W1.drewN nq1 := ⟨_, rfl⟩
      have hb2 : Below W1.heap.size W1 V := hV ▸ below_drewC (Below.refl _ _) _
      have HB2 := Lib.hid hb2
      rw [← hV]
      clear hV
      clear x1 y0 y1 y2 y3 y4
      obtain ⟨x1, y0, y1, y2, y3, y4⟩ := HX.out V hb2
      clear hb2
      go_wp2_with fail
      refine (HFi.out V HB2.out).mono ?_
      rintro e w3 ⟨s2, rfl, hc, hv, hb, hfr, -⟩
      have HFr := Lib.hid hfr
      clear hfr
      have HC3 := Lib.hid hc
      have HV3 := Lib.hid hv
      have HB3 := Lib.hid hb
      clear hc hv hb x1 y0 y1 y2 y3 y4
      have hQ3 := HFr.out.blk (HQ.out.below HB2.out HQ.out.lt) (by have h1 := HPq.out; omega) HNq.out
      have w0 : w3.cell? ⟨q, 0, none⟩ = some (.int .i64 mk) := hQ3.cell 0
      have w1 : w3.cell? ⟨q, 1, none⟩ = some (.int .i64 (k : Int)) := hQ3.cell 1
      have w2 : w3.cell? ⟨q, 2, none⟩ = some (.int .i64 mn) := hQ3.cell 2
      have w3' : w3.cell? ⟨q, 3, none⟩ = some (.int .i64 mu) := hQ3.cell 3
      have w4 : w3.cell? ⟨q, 4, none⟩ = some (.int .i64 mv) := hQ3.cell 4
      have HPa := Lib.hid (pass_pure mk (k : Int) mn mu mv w3)
      have HMv : Hid (mv = 0) := Lib.hid HV0.out
      have HTo : Hid (∀ W, Below w3.heap.size w3 W → Calls Try.prog 62 #[.pointer (some ⟨p, 0, none⟩), .agg #[.int .i64 2, .int .i64 (k : Int), .int .i64 mn, .int .i64 mu, .int .i64 mv]] W fun e w' => ∃ s2, e = .returned (.int .i64 (towardS ps Fs ⟨2, (k : Int), mn, mu, 0⟩).2) ∧ ChgX w' B p T s2 ∧ s2.v = (towardS ps Fs ⟨2, (k : Int), mn, mu, 0⟩).1 ∧ Below B W w') := Lib.hid (fun W hW => by
        have hgm := find_mid HG.out HGo.out HF.out HBe.out (k := k) (by have h2 := HM.out.2.1; simp only at h2; omega) HM.out HNm.out HZ2.out
        have e3 : Fs = setO s.v k ⟨f, (objA s.v k).m, (succK (objA s.v k).c mn mu).1⟩ := HZ3.out
        rw [← show Fs = _ from e3] at hgm
        have hv3 : s2.v = Fs := HV3.out
        have hol2 : (s2.v.os.length : Int) = (s.v.os.length : Int) := by rw [hv3, e3, setO_len]
        have hE0 : towardS ps s2.v ⟨2, (k : Int), mn, mu, mv⟩ = towardS ps Fs ⟨2, (k : Int), mn, mu, 0⟩ := by rw [hv3, HMv.out]
        refine (towards_any (HC3.out.below hW) HG.out (by rw [hv3]; exact hgm) (m := ⟨2, (k : Int), mn, mu, mv⟩) ⟨by simp, HI.out.o, HI.out.n, HI.out.u, HI.out.v⟩ (by rw [hol2]; exact ⟨HM.out.1, HM.out.2.1, HM.out.2.2.1, HM.out.2.2.2.1, HM.out.2.2.2.2.1, HM.out.2.2.2.2.2⟩)).mono ?_
        rintro e w' ⟨s9, h1, h2, h3, h4⟩
        rw [hE0] at h1 h3
        exact ⟨s9, h1, h2, h3, h4⟩)
      go_wp2_with (go_at_call 101; refine HPa.out.mono ?_; rintro e w5 ⟨rfl, hb5⟩; have HB5 := Lib.hid hb5; clear hb5)
      refine (HTo.out w5 HB5.out).mono ?_
      rintro e w6 ⟨s4, rfl, hc, hv, hb⟩
      have HC6 := Lib.hid hc
      have HV6 := Lib.hid hv
      have HB6 := Lib.hid hb
      clear hc hv hb w0 w1 w2 w3' w4
      go_wp2
      go_ret
      have e1 := HE.out
      have h9 : Below B w w3 := (HB1.out.mono HB.out).trans ((HB2.out.mono (Nat.le_trans HB.out HB1.out.size)).trans HB3.out)
      exact ⟨s4, by rw [← e1]; rfl, HC6.out, by rw [HV6.out, ← e1], (h9.trans (HB5.out.mono HC3.out.sz)).trans HB6.out⟩
    | false =>
      have HE : Hid ((Rs, Re) = (Fs, Fe)) := Lib.hid (by rw [HR.out, HS.out]; rfl)
      go_enter Try.func89, Try.ntmps89
      go_wp2_with fail
      rw [← hW1, ← hq]
      clear hW1 hq
      go_quiet (fail)
      revert nq; intro nq1
      obtain ⟨V, hV⟩ : ∃ V, V = W1.drewN nq1 := ⟨_, rfl⟩
      have hb2 : Below W1.heap.size W1 V := hV ▸ below_drewC (Below.refl _ _) _
      have HB2 := Lib.hid hb2
      rw [← hV]
      clear hV
      clear x1 y0 y1 y2 y3 y4
      obtain ⟨x1, y0, y1, y2, y3, y4⟩ := HX.out V hb2
      clear hb2
      go_wp2_with fail
      refine (HFi.out V HB2.out).mono ?_
      rintro e w3 ⟨s2, rfl, hc, hv, hb, hfr, -⟩
      have HFr := Lib.hid hfr
      clear hfr
      have HC3 := Lib.hid hc
      have HV3 := Lib.hid hv
      have HB3 := Lib.hid hb
      clear hc hv hb x1 y0 y1 y2 y3 y4
      by_cases he : Fe = 0
      · have t4 : (Fe != 0) = false := by simpa using he
        clear he
        go_wp2
        go_ret
        have e1 := HE.out
        injection e1 with e1 e2
        exact ⟨s2, by rw [e2]; rfl, HC3.out.x, by rw [e1]; exact HV3.out, (HB1.out.mono HB.out).trans ((HB2.out.mono (Nat.le_trans HB.out HB1.out.size)).trans HB3.out)⟩
      · have t4 : (Fe != 0) = true := by simpa using he
        clear he
        go_wp2
        go_ret
        have e1 := HE.out
        injection e1 with e1 e2
        exact ⟨s2, by rw [e2]; rfl, HC3.out.x, by rw [e1]; exact HV3.out, (HB1.out.mono HB.out).trans ((HB2.out.mono (Nat.le_trans HB.out HB1.out.size)).trans HB3.out)⟩
end Go.Proofs.Ytiaafhcfeeekeaa.Pk

/- The change's message: what a neighbour's message asks. -/
namespace Go.Proofs.Ytiaafhcfeeekeaa.Pk
open Go.RowKit Go.Proofs.Ytiaafhcfeeekeaa.Gr
set_option linter.unusedVariables false
set_option maxRecDepth 100000 in
set_option maxHeartbeats 8000000 in
theorem message_any {w : World} {B p T g : Nat} {ps : List Int} {s : StL} (h : Chg w B p T g ps s) (G : Gr.Good ps) (hg : GoodS ps s.v) {m : Mg} {f : Int} (hm : m.I) (hb : m.Be) (hM : MeantS (ps.length : Int) (s.v.os.length : Int) m) (hf : f ∈ nbsI ps s.v.me) :
    Calls Try.prog 68 #[.pointer (some ⟨p, 0, none⟩), m.val, .int .i64 f] w fun e w' => ∃ s2, e = .returned (.int .i64 (comeS ps s.v f m).2) ∧ ChgX w' B p T s2 ∧ s2.v = (comeS ps s.v f m).1 ∧ Below B w w' := by
  obtain ⟨q, hq⟩ : ∃ q, q = w.heap.size := ⟨_, rfl⟩
  obtain ⟨W1, hW1⟩ : ∃ W, W = w.alloc (.cells m.val.cells 30) := ⟨_, rfl⟩
  have hb1 : Below w.heap.size w W1 := hW1 ▸ (Below.refl _ _).alloc (Nat.le_refl _) _
  have hQ : Blk W1 q 30 m.val.cells := by rw [hW1, hq]; exact Blk.new w _ _
  have HB1 : Hid (Below B w W1) := Lib.hid (hb1.mono h.sz)
  have HC1 := Lib.hid (h.below hb1)
  have HFd := Lib.hid (fun (e : m.k = 1) => found_any HC1.out G hg hm hb e hM hf)
  have HSk := Lib.hid (seek_any HC1.out G hg hm hM)
  have HTo := Lib.hid (towards_any HC1.out G hg hm hM)
  obtain ⟨R, hR⟩ : ∃ R, R = comeS ps s.v f m := ⟨_, rfl⟩
  have HR := Lib.hid hR
  obtain ⟨Rs, Re⟩ := R
  rw [← hR]
  clear h hb1 hg hM hm hR G hb hf
  obtain ⟨mk, mo, mn, mu, mv⟩ := m
  simp only [Mg.val, Value.cells] at hQ hW1 HFd HSk HTo ⊢
  have y0 : W1.cell? ⟨q, 0, none⟩ = some (.int .i64 mk) := hQ.cell 0
  have y1 : W1.cell? ⟨q, 1, none⟩ = some (.int .i64 mo) := hQ.cell 1
  have y2 : W1.cell? ⟨q, 2, none⟩ = some (.int .i64 mn) := hQ.cell 2
  have y3 : W1.cell? ⟨q, 3, none⟩ = some (.int .i64 mu) := hQ.cell 3
  have y4 : W1.cell? ⟨q, 4, none⟩ = some (.int .i64 mv) := hQ.cell 4
  have HW1 := Lib.hid hW1
  clear hQ
  by_cases h1 : mk = 1
  · have t1 : (mk == 1) = true := by simpa using h1
    have HE : Hid ((Rs, Re) = findS ps s.v f ⟨mk, mo, mn, mu, mv⟩) := Lib.hid (by rw [HR.out]; unfold comeS; rw [if_neg (by show ¬ mk = 3; omega), if_neg (by show ¬ mk ≠ 1; omega)])
    have HFd := Lib.hid (HFd.out h1)
    clear h1 HSk HTo
    go_enter Try.func68, Try.ntmps68
    rw [hW1] at y0 y1 y2 y3 y4
    go_wp2_with fail
    rw [← HW1.out]
    refine HFd.out.mono ?_
    rintro e w3 ⟨s2, rfl, hc, hv, hb⟩
    have HC3 := Lib.hid hc
    have HV3 := Lib.hid hv
    have HB3 := Lib.hid hb
    clear hc hv hb y0 y1 y2 y3 y4
    go_wp2
    go_ret
    have e1 := HE.out
    exact ⟨s2, by rw [← e1]; rfl, HC3.out, by rw [HV3.out, ← e1], HB1.out.trans HB3.out⟩
  · have t1 : (mk == 1) = false := by simpa using h1
    by_cases h3 : mk = 3
    · have t3 : (mk == 3) = true := by simpa using h3
      have HE : Hid ((Rs, Re) = seekS ps s.v ⟨mk, mo, mn, mu, mv⟩) := Lib.hid (by rw [HR.out]; unfold comeS; rw [if_pos h3])
      clear h1 h3 HFd HTo
      go_enter Try.func68, Try.ntmps68
      rw [hW1] at y0 y1 y2 y3 y4
      go_wp2_with fail
      rw [← HW1.out]
      refine HSk.out.mono ?_
      rintro e w3 ⟨s2, rfl, hc, hv, hb⟩
      have HC3 := Lib.hid hc
      have HV3 := Lib.hid hv
      have HB3 := Lib.hid hb
      clear hc hv hb y0 y1 y2 y3 y4
      go_wp2
      go_ret
      have e1 := HE.out
      exact ⟨s2, by rw [← e1]; rfl, HC3.out, by rw [HV3.out, ← e1], HB1.out.trans HB3.out⟩
    · have t3 : (mk == 3) = false := by simpa using h3
      have HE : Hid ((Rs, Re) = towardS ps s.v ⟨mk, mo, mn, mu, mv⟩) := Lib.hid (by rw [HR.out]; unfold comeS; rw [if_neg h3, if_pos h1])
      clear h1 h3 HFd HSk
      go_enter Try.func68, Try.ntmps68
      rw [hW1] at y0 y1 y2 y3 y4
      go_wp2_with fail
      rw [← HW1.out]
      refine HTo.out.mono ?_
      rintro e w3 ⟨s2, rfl, hc, hv, hb⟩
      have HC3 := Lib.hid hc
      have HV3 := Lib.hid hv
      have HB3 := Lib.hid hb
      clear hc hv hb y0 y1 y2 y3 y4
      go_wp2
      go_ret
      have e1 := HE.out
      exact ⟨s2, by rw [← e1]; rfl, HC3.out, by rw [HV3.out, ← e1], HB1.out.trans HB3.out⟩
end Go.Proofs.Ytiaafhcfeeekeaa.Pk

/- The document's Heard of a side. -/
namespace Go.Proofs.Ytiaafhcfeeekeaa.Pk
open Go.RowKit
set_option linter.unusedVariables false
theorem mgs_drop (l : List Mg) (k : Nat) : mgs (l.drop k) = (mgs l).drop (k * 5) := by
  induction k generalizing l with
  | zero => simp
  | succ k ih =>
    cases l with
    | nil => simp [mgs]
    | cons x l =>
      rw [List.drop_succ_cons, ih, mgs_cons, show (k + 1) * 5 = k * 5 + 5 by omega]
      rfl
theorem run_cutM (a : Option Addr) (n c i : Nat) (h1 : i ≤ n) (w : World) :
    (Instr.slice 48 (.slice a n c) (some (.int .i64 (i : Int))) none none).run Try.prog w = .ok (.slice (if c = i then a else a.map (·.add (i * 5))) (n - i) (c - i)) w := by
  obtain ⟨f, hi1, hi2⟩ := Option.map_eq_some_iff.1 msg_info
  simp only [Prod.mk.injEq] at hi2
  have hi3 := hi2.2.1
  simp [Instr.slice, run_underlying Try.underlying48, go_sem, Instr.sliceBounds, sizeOf, typeInfo, hi1, hi3, h1]
end Go.Proofs.Ytiaafhcfeeekeaa.Pk
