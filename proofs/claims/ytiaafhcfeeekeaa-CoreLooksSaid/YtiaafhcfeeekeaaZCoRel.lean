/- The change's acquire. -/
import Derived.Test.YtiaafhcfeeekeaaZCoAcqM
import Derived.Test.YtiaafhcfeeekeaaZChRef4
import Derived.Test.YtiaafhcfeeekeaaZStGoodEdge
import Derived.Test.YtiaafhcfeeekeaaZCoSeek
namespace Go.Proofs.Ytiaafhcfeeekeaa.Pk
open Go.RowKit Go.Proofs.Ytiaafhcfeeekeaa.Gr
set_option linter.unusedVariables false
attribute [local go_sem] Oper.semAt_some
theorem open_good {ps : List Int} (G : Gr.Good ps) {s : StL} (hg : GoodS ps s.v) : openW s.v.os = (sumK s.v.os : Int) := by
  have hl : s.os.length = s.v.os.length := by simp [StL.v]
  refine open_is s.os s.os.length rfl (by have := hg.many.2; omega) (fun x hx => ?_)
  have := (good_own G hg (o := x.v) (List.mem_map.2 ⟨x, hx, rfl⟩)).1
  omega
set_option maxRecDepth 100000 in
set_option maxHeartbeats 8000000 in
theorem acquire_any {w : World} {B p T g : Nat} {ps : List Int} {s : StL} (h : Chg w B p T g ps s) (G : Gr.Good ps) (hg : GoodS ps s.v) {k : Nat} (hk : k < s.v.os.length) :
    Calls Try.prog 43 #[.pointer (some ⟨p, 0, none⟩), .int .i64 (k : Int)] w fun e w' => ∃ s2, e = .returned (.tuple #[.int .i64 (acqS s.v k).2.1, .int .i64 (acqS s.v k).2.2]) ∧ ((acqS s.v k).2.2 = 0 → ChgX w' B p T s2 ∧ s2.v = (acqS s.v k).1) ∧ Below B w w' := by
  have HB : Hid (B ≤ w.heap.size) := Lib.hid h.sz
  have HC0 := Lib.hid h
  have HGo := Lib.hid hg
  have HG := Lib.hid G
  have HKl := Lib.hid hk
  have hol : s.os.length = s.v.os.length := by simp [StL.v]
  obtain ⟨o, ho, hov⟩ := own_at (s := s) (k := k) (by omega)
  obtain ⟨o1, o2, o3⟩ := good_own G hg hov
  have HO := Lib.hid ho
  have HLc := Lib.hid o1
  have HIc := Lib.hid o2
  have HA : Hid (objA s.v k = o.v) := Lib.hid (obj_at ho)
  have HOk := Lib.hid (hg.os o.v hov)
  have hmr : 0 ≤ o.v.m ∧ o.v.m ≤ 1099511627776 := HOk.out.2.1
  obtain ⟨go, hgo, g1, g2, g3, g4, g5, g6, g7, g8, c0, c1, c2⟩ := h.obj ho
  obtain ⟨n, hn⟩ : ∃ n, n = s.so.n := ⟨_, rfl⟩
  obtain ⟨c, hc⟩ : ∃ c, c = s.so.c := ⟨_, rfl⟩
  have HSo : Hid (s.so = ⟨some ⟨go, 0, none⟩, n, c⟩) := Lib.hid (by rw [hn, hc]; cases hse : s.so; rw [hse] at hgo; simp only at hgo; rw [hgo])
  rw [← hn] at g5 g6 g7
  rw [← hc] at g4 g7
  have hn8 : n ≤ 8 := by have h2 := hg.many.2; omega
  have HGl : Hid (B ≤ go ∧ go < w.heap.size ∧ go ≠ p) := Lib.hid ⟨g1, g2, g3⟩
  obtain ⟨me, hme⟩ : ∃ me, me = s.me := ⟨_, rfl⟩
  have HMe := Lib.hid hme
  obtain ⟨Mm, hMm⟩ : ∃ m, m = o.v.m := ⟨_, rfl⟩
  have HMm := Lib.hid hMm
  rw [← hMm] at hmr c1
  obtain ⟨E, bA, q0, fA, gA, hE⟩ : ∃ E bA q0 fA gA, s.val = .agg #[.int .i64 me, .slice (some ⟨go, 0, none⟩) n c, .slice E.A E.n E.c, .int .i64 q0, .slice bA.A bA.n bA.c, .slice fA.A fA.n gA] := ⟨s.se, s.sa, s.q, s.sg, s.sg.c, by unfold StL.val; rw [HSo.out, ← hme]; rfl⟩
  have HVl := Lib.hid hE
  have hcells : ∃ vs, Blk w p 71 vs ∧ vs = #[.pointer (some ⟨T, 0, none⟩), .int .i64 me, .slice (some ⟨go, 0, none⟩) n c, .slice E.A E.n E.c, .int .i64 q0, .slice bA.A bA.n bA.c, .slice fA.A fA.n gA] := by
    refine ⟨_, h.box, ?_⟩
    have hE2 := hE
    unfold StL.val at hE2
    injection hE2 with hE2
    simp only [Array.mk.injEq, List.cons.injEq, and_true] at hE2
    obtain ⟨a1, a2, a3, a4, a5, a6⟩ := hE2
    rw [a1, a2, a3, a4, a5, a6]
  obtain ⟨vs, hbx, rfl⟩ := hcells
  have HBx := Lib.hid hbx
  have hop := open_good G hg
  have HOp : Hid (Calls Try.prog 29 #[.agg #[.int .i64 me, .slice (some ⟨go, 0, none⟩) n c, .slice E.A E.n E.c, .int .i64 q0, .slice bA.A bA.n bA.c, .slice fA.A fA.n gA]] w fun e w' => e = .returned (.int .i64 (sumK s.v.os : Int)) ∧ Below w.heap.size w w') := Lib.hid (by
    have := openS s w (h.own.few (good_few G hg))
    rw [hE, hop] at this
    exact this)
  have x1 : w.cell? ⟨p, 1, none⟩ = some (.int .i64 me) := hbx.cell 1
  have x2 : w.cell? ⟨p, 2, none⟩ = some (.slice (some ⟨go, 0, none⟩) n c) := hbx.cell 2
  have x3 : w.cell? ⟨p, 3, none⟩ = some (.slice E.A E.n E.c) := hbx.cell 3
  have x4 : w.cell? ⟨p, 4, none⟩ = some (.int .i64 q0) := hbx.cell 4
  have x5 : w.cell? ⟨p, 5, none⟩ = some (.slice bA.A bA.n bA.c) := hbx.cell 5
  have x6 : w.cell? ⟨p, 6, none⟩ = some (.slice fA.A fA.n gA) := hbx.cell 6
  have hsum : sumK s.v.os ≤ 8 := hg.few
  obtain ⟨K8, hK8⟩ : ∃ K, K = sumK s.v.os := ⟨_, rfl⟩
  rw [← hK8] at HOp hsum
  have HK8 := Lib.hid hK8
  have HX : Hid (∀ W, Below w.heap.size w W → W.cell? ⟨go, k * 3 + 1, none⟩ = some (.int .i64 Mm) ∧ W.cell? ⟨p, 1, none⟩ = some (.int .i64 me) ∧ ∀ j, W.frozen? ⟨go, j, none⟩ = false) := Lib.hid (fun W hW => by
    obtain ⟨go', q1, -, -, -, -, -, -, -, q3, -, q4, -⟩ := (HC0.out.below hW).obj HO.out
    obtain rfl : go = go' := by rw [HSo.out] at q1; injection q1 with q1; injection q1
    exact ⟨by rw [HMm.out]; exact q4, (HBx.out.below hW HBx.out.lt).cell 1, q3⟩)
  obtain ⟨S, hS⟩ : ∃ S, S = acqS s.v k := ⟨_, rfl⟩
  rw [← hS]
  have HS := Lib.hid hS
  obtain ⟨Ss, Sn, Se⟩ := S
  clear h hg G hk hol o1 o2 o3 hov ho hgo g1 g2 g3 g5 g8 c0 c1 c2 hn hc hme hMm hE hbx hop hS hK8
  go_enter Try.func43, Try.ntmps43
  go_wp2_with fail
  refine HOp.out.mono ?_
  rintro e w2 ⟨rfl, hb2⟩
  have HB2 := Lib.hid hb2
  obtain ⟨z1, zp, zf⟩ := HX.out w2 hb2
  clear x1 x2 x3 x4 x5 x6
  by_cases h8 : K8 = 8
  · have t1 : ((K8 : Int) == 8) = true := by simp; omega
    have HE : Hid ((Ss, Sn, Se) = (s.v, 0, 21)) := Lib.hid (by rw [HS.out]; exact acqS_many (by rw [← HK8.out]; omega))
    clear h8
    go_wp2
    go_ret2
    have e1 := HE.out
    injection e1 with e1 e2
    injection e2 with e2 e3
    refine ⟨s, by rw [e2, e3]; rfl, fun h0 => ?_, HB2.out.mono HB.out⟩
    rw [e3] at h0; cases h0
  have t1 : ((K8 : Int) == 8) = false := by simp; omega
  have hn8s : ¬ 8 ≤ sumK s.v.os := by rw [← HK8.out]; omega
  by_cases hM : Mm = 1099511627776
  · have t2 : (Mm == 1099511627776) = true := by simpa using hM
    have HE : Hid ((Ss, Sn, Se) = (s.v, 0, 23)) := Lib.hid (by rw [HS.out]; exact acqS_room hn8s (by rw [HA.out, ← HMm.out]; exact hM))
    clear h8 hM hn8s
    go_wp2
    go_ret2
    have e1 := HE.out
    injection e1 with e1 e2
    injection e2 with e2 e3
    refine ⟨s, by rw [e2, e3]; rfl, fun h0 => ?_, HB2.out.mono HB.out⟩
    rw [e3] at h0; cases h0
  have t2 : (Mm == 1099511627776) = false := by simpa using hM
  have HN8 := Lib.hid hn8s
  have HNM : Hid (¬ (objA s.v k).m = 1099511627776) := Lib.hid (by rw [HA.out, ← HMm.out]; exact hM)
  obtain ⟨M1, hM1⟩ : ∃ m, m = Mm + 1 := ⟨_, rfl⟩
  have HM1 := Lib.hid hM1
  have t3 : IntKind.i64.wrap (Mm + 1) = M1 := by rw [IntWalk.i64_in _ (by omega), hM1]
  have HMr : Hid (1 ≤ M1 ∧ M1 ≤ 1099511627776) := Lib.hid (by omega)
  have HM1o : Hid ((objA s.v k).m + 1 = M1) := Lib.hid (by rw [HA.out, ← HMm.out, hM1])
  obtain ⟨W3, hW3⟩ : ∃ W, W = w2.setCell ⟨go, k * 3 + 1, none⟩ (.int .i64 M1) := ⟨_, rfl⟩
  have hput := HC0.out.putO (j := 1) (o' := ⟨⟨o.v.a, M1, o.v.c⟩, o.s⟩) (u := .int .i64 M1) HO.out (by omega) rfl HSo.out hb2 ((HC0.out.below hb2).own.os.each o (List.mem_of_getElem? HO.out)) (.inl rfl)
  rw [← hW3] at hput
  obtain ⟨hC3, hB3⟩ := hput
  have HC3 := Lib.hid hC3
  have HB3 := Lib.hid hB3
  have HV3 : Hid (({s with os := s.os.set k ⟨⟨o.v.a, M1, o.v.c⟩, o.s⟩} : StL).v = setO s.v k ⟨o.v.a, M1, o.v.c⟩) := Lib.hid (v_setO _ _ _)
  have HO3 : Hid (({s with os := s.os.set k ⟨⟨o.v.a, M1, o.v.c⟩, o.s⟩} : StL).os[k]? = some ⟨⟨o.v.a, M1, o.v.c⟩, o.s⟩) := Lib.hid (by
    show (s.os.set k _)[k]? = _
    rw [List.getElem?_set_self (List.getElem?_eq_some_iff.1 HO.out).1])
  have HW3 := Lib.hid hW3
  obtain ⟨q, hq⟩ : ∃ q, q = W3.heap.size := ⟨_, rfl⟩
  have hqw : w2.heap.size = q := by rw [hq, hW3, setc_size]
  have HQw := Lib.hid hqw
  have HQe := Lib.hid hq
  obtain ⟨W4, hW4⟩ : ∃ W, W = W3.alloc (.cells #[.int .i64 1, .int .i64 (k : Int), .int .i64 me, .int .i64 M1, .int .i64 0] 30) := ⟨_, rfl⟩
  have hb34 : Below W3.heap.size W3 W4 := hW4 ▸ (Below.refl _ _).alloc (Nat.le_refl _) _
  have HB34 := Lib.hid hb34
  have HC4 := Lib.hid (hC3.below hb34)
  have HQ4 : Hid (Blk W4 q 30 #[.int .i64 1, .int .i64 (k : Int), .int .i64 me, .int .i64 M1, .int .i64 0]) := Lib.hid (by rw [hW4, hq]; exact Blk.new W3 _ _)
  have HW4 := Lib.hid hW4
  have hgp := good_parts.1 HGo.out
  have HFi : Hid (∀ W, Below W4.heap.size W4 W → Calls Try.prog 58 #[.pointer (some ⟨p, 0, none⟩), .agg #[.int .i64 1, .int .i64 (k : Int), .int .i64 me, .int .i64 M1, .int .i64 0], .int .i64 me] W fun e w' => ∃ s2, e = .returned (.tuple #[.bool (acqT s.v k).2.1, .int .i64 (acqT s.v k).2.2]) ∧ Chg w' B p T g ps s2 ∧ s2.v = (acqT s.v k).1 ∧ Below B W w' ∧ Frm W w' p ({s with os := s.os.set k ⟨⟨o.v.a, M1, o.v.c⟩, o.s⟩} : StL) ∧ s2.so = s.so ∧ Sub W ({s with os := s.os.set k ⟨⟨o.v.a, M1, o.v.c⟩, o.s⟩} : StL) s2) := Lib.hid (fun W hW => by
    have hmr := HGo.out.me
    have hme2 : s.v.me = me := HMe.out.symm
    rw [hme2] at hmr
    have hf := HG.out.few
    have hkl := HKl.out
    have h8 := HGo.out.many.2
    have hM := HMr.out
    have e0 : findT (setO s.v k ⟨o.v.a, M1, o.v.c⟩) k me ⟨1, (k : Int), me, M1, 0⟩ = acqT s.v k := by unfold acqT; rw [HM1o.out, HA.out, hme2]
    refine (find_any (HC4.out.below hW) HG.out (by rw [HV3.out]; exact partE_setO hgp.2.2.1) (m := ⟨1, (k : Int), me, M1, 0⟩) (f := me) HO3.out rfl ⟨by simp, by constructor <;> (simp only; omega), by constructor <;> (simp only; omega), by constructor <;> (simp only; omega), by simp⟩ HLc.out HIc.out (by rw [HV3.out]; exact HOk.out.1) (by have h1 := (Row.Own.rd HC0.out.own.os.row).1; have h3 : s.os.length = s.v.os.length := by { simp [StL.v] }; show s.so.n ≤ 1024; omega)).mono ?_
    rintro e w' ⟨s2, k1, k2, k3, k4, k5, k6⟩
    rw [HV3.out, e0] at k1 k3
    exact ⟨s2, k1, k2, k3, k4, k5, k6⟩)
  obtain ⟨F, hF⟩ : ∃ F, F = acqT s.v k := ⟨_, rfl⟩
  rw [← hF] at HFi
  have HFe := Lib.hid hF
  obtain ⟨Fs, Fb, Fe⟩ := F
  clear h8 hM hn8s hM1 hW3 hC3 hB3 hq hW4 hb34 hgp hF hb2 hqw
  go_wp2_with fail
  rw [← HW3.out]
  obtain ⟨z3, zp3, zf3⟩ : W3.cell? ⟨go, k * 3 + 1, none⟩ = some (.int .i64 M1) ∧ W3.cell? ⟨p, 1, none⟩ = some (.int .i64 me) ∧ ∀ j, W3.frozen? ⟨go, j, none⟩ = false := by
    obtain ⟨go', q1, -, -, -, -, -, -, -, q3, -, q4, -⟩ := HC3.out.obj HO3.out
    obtain rfl : go = go' := by
      have e2 : s.so.A = some ⟨go', 0, none⟩ := q1
      rw [HSo.out] at e2; injection e2 with e2; injection e2
    exact ⟨q4, by rw [HMe.out]; exact HC3.out.box.cell 1, q3⟩
  clear z1 zp zf
  have hgs : go < W3.heap.size := Nat.lt_of_lt_of_le HGl.out.2.1 (by have := HB2.out.size; have := HQw.out; have h9 : W3.heap.size = w2.heap.size := (by rw [HW3.out, setc_size]); omega)
  have hps : p < W3.heap.size := HC3.out.lt
  have hgn : go ≠ W3.heap.size := by omega
  have hpn : p ≠ W3.heap.size := by omega
  go_region
  rw [← HW4.out, ← HQe.out]
  clear z3 zp3 zf3 hgs hps hgn hpn
  have hQd := HQ4.out
  have y0 : W4.drew.cell? ⟨q, 0, none⟩ = some (.int .i64 1) := hQd.cell 0
  have y1 : W4.drew.cell? ⟨q, 1, none⟩ = some (.int .i64 (k : Int)) := hQd.cell 1
  have y2 : W4.drew.cell? ⟨q, 2, none⟩ = some (.int .i64 me) := hQd.cell 2
  have y3 : W4.drew.cell? ⟨q, 3, none⟩ = some (.int .i64 M1) := hQd.cell 3
  have y4 : W4.drew.cell? ⟨q, 4, none⟩ = some (.int .i64 0) := hQd.cell 4
  have yp : W4.drew.cell? ⟨p, 1, none⟩ = some (.int .i64 me) := by rw [HMe.out]; exact HC4.out.box.cell 1
  obtain ⟨W5, hW5⟩ : ∃ W, W = W4.drew := ⟨_, rfl⟩
  have HB45 : Hid (Below W4.heap.size W4 W5) := Lib.hid (by rw [hW5]; exact below_drewC (Below.refl _ _) 1)
  rw [← hW5] at y0 y1 y2 y3 y4 yp ⊢
  clear hW5 hQd
  have HD5 : Hid (Below W4.heap.size W4 W5.drew) := Lib.hid (below_drewC HB45.out 1)
  have HPq : Hid (p < q) := Lib.hid (by have h1 := HC3.out.lt; have h2 := HQe.out; omega)
  have HNq : Hid (∀ u ∈ stV ({s with os := s.os.set k ⟨⟨o.v.a, M1, o.v.c⟩, o.s⟩} : StL), ownB u ≠ some q) := Lib.hid (fun u hu e => by have h1 := (HC3.out.own.mem u hu q e).2; have h2 := HQe.out; omega)
  have HBb : Hid (Below B w W4) := Lib.hid (HB3.out.trans (HB34.out.mono HC3.out.sz))
  go_wp2_with fail
  go_region_with (go_at_call 58; go_must (refine (HFi.out W5.drew HD5.out).mono ?_; rintro e w6 ⟨s2, rfl, hc, hv, hb, hfr, hso, hsub⟩; have HSub := Lib.hid hsub; clear hsub; have HC6 := Lib.hid hc; have HV6 := Lib.hid hv; have HB6 := Lib.hid hb; have HFr := Lib.hid hfr; have HSo6 := Lib.hid hso; clear hc hv hb hfr hso))
  all_goals
    clear y0 y1 y2 y3 y4 yp
    by_cases he : Fe = 0
    · subst he
      have hQ6 := HFr.out.blk (HQ4.out.below HD5.out HQ4.out.lt) (by have h1 := HPq.out; omega) HNq.out
      have HQ6 := Lib.hid hQ6
      have hln := acq_len (s := s.v) HKl.out
      rw [← HFe.out] at hln
      have hobj := acq_obj (s := s.v) HKl.out
      rw [← HFe.out] at hobj
      simp only at hln hobj
      rw [HM1o.out, show s.v.me = me from HMe.out.symm] at hobj
      obtain ⟨o2, ho2, hov2⟩ := own_at (s := s2) (k := k) (by have h1 : s2.v.os.length = s2.os.length := (by simp [StL.v]); have h2 := HKl.out; rw [HV6.out, hln.1] at h1; omega)
      have hA2 : objA s2.v k = o2.v := obj_at ho2
      rw [HV6.out] at hA2
      have HO2 := Lib.hid ho2
      have HOv : Hid (o2.v = ⟨me, M1, acqC s.v k⟩) := Lib.hid (by rw [← hA2, hobj])
      have hcl := acq_cells (s := s.v) (k := k) (by rw [HA.out]; exact HLc.out) (by rw [HA.out]; exact HIc.out) (by have h1 := HGo.out.me; have h2 := HG.out.few; unfold I64; omega) (by rw [HM1o.out]; have h1 := HMr.out; unfold I64; omega)
      obtain ⟨go', q1, p1, p2, p3, p4, p5, p6, p7, p8, c0, c1, c2⟩ := HC6.out.obj ho2
      obtain rfl : go = go' := by
        rw [HSo6.out, HSo.out] at q1; injection q1 with q1; injection q1
      have HSo7 : Hid (s2.so = ⟨some ⟨go, 0, none⟩, n, c⟩) := Lib.hid (by rw [HSo6.out]; exact HSo.out)
      obtain ⟨eA, en, ec, hes⟩ : ∃ A n c, o2.s = ⟨A, n, c⟩ := ⟨_, _, _, rfl⟩
      have hin := HC6.out.inK ho2 (by rw [HOv.out]; exact hcl.1) (by rw [HOv.out]; exact hcl.2)
      rw [HOv.out] at hin
      simp only [hes, Sl.val] at c2 hin
      have HAd : Hid (∀ W, Below w6.heap.size w6 W → Calls Try.prog 59 #[.slice eA en ec, .int .i64 M1] W fun e w' => ∃ A7 n7 k7, e = .returned (.slice A7 n7 k7) ∧ ceR.Own w' w6.heap.size (.slice A7 n7 k7) (addK (acqC s.v k) M1) ∧ Below w6.heap.size w6 w' ∧ w'.cell? ⟨go, k * 3 + 2, none⟩ = some (.slice eA en ec) ∧ ∀ j, w'.frozen? ⟨go, j, none⟩ = false) := Lib.hid (fun W hW => (addC eA en ec (acqC s.v k) M1 W (hin.next hW) (by have h1 := HMr.out; constructor <;> omega)).mono fun e w' ⟨v, e1, e2, e3⟩ => by
        have e4 := OwnK.row e2
        obtain ⟨A7, k7, e5⟩ := Row.Own.sl e4
        rw [e5] at e1 e4
        have hb := hW.trans (e3.mono hW.size)
        obtain ⟨go', r1, -, -, -, -, -, -, -, r3, -, -, r4⟩ := (HC6.out.below hb).obj HO2.out
        obtain rfl : go = go' := by rw [HSo7.out] at r1; injection r1 with r1; injection r1
        simp only [hes, Sl.val] at r4
        exact ⟨A7, _, k7, e1, e4.low hW.size, hb, r4, r3⟩)
      have y3 : w6.cell? ⟨q, 3, none⟩ = some (.int .i64 M1) := hQ6.cell 3
      have HD6 : Hid (Below w6.heap.size w6 w6.drew) := Lib.hid (below_drewC (Below.refl _ _) 1)
      have HGn : Hid (q ≠ go) := Lib.hid (by have h1 := HGl.out.2.1; have h2 := HQw.out; have h3 := HB2.out.size; omega)
      clear hQ6 hln hobj ho2 hov2 hA2 hcl hin hes p1 p2 p3 p5 p6 p7 c0 c1 q1
      go_wp2_with fail
      go_region_with (go_at_call 59; go_must (refine (HAd.out w6.drew HD6.out).mono ?_; rintro e w7 ⟨A7, n7, k7, rfl, ho7, hb7, zz, zzf⟩; have HO7 := Lib.hid ho7; have HB7 := Lib.hid hb7; clear ho7 hb7))
      all_goals
        clear c2 y3 zz zzf p8
        have hput := HC6.out.putO (j := 2) (o' := ⟨⟨me, M1, addK (acqC s.v k) M1⟩, ⟨A7, n7, k7⟩⟩) (u := .slice A7 n7 k7) HO2.out (by omega) (by show owR.enc _ = (owR.enc o2).set 2 _; unfold owR; simp only [HOv.out]; rfl) HSo7.out HB7.out (HO7.out.low HC6.out.sz) (.inr (HO7.out.fresh))
        obtain ⟨w8, hw8⟩ : ∃ W, W = w7.setCell ⟨go, k * 3 + 2, none⟩ (.slice A7 n7 k7) := ⟨_, rfl⟩
        rw [← hw8] at hput ⊢
        obtain ⟨hC8, hB8⟩ := hput
        have HC8 := Lib.hid hC8
        have HB8 := Lib.hid hB8
        have HQ8 : Hid (Blk w8 q 30 #[.int .i64 1, .int .i64 (k : Int), .int .i64 me, .int .i64 M1, .int .i64 0]) := Lib.hid (by rw [hw8]; exact blk_other (HQ6.out.below HB7.out HQ6.out.lt) HGn.out _ _)
        have HV8 : Hid (({s2 with os := s2.os.set k ⟨⟨me, M1, addK (acqC s.v k) M1⟩, ⟨A7, n7, k7⟩⟩} : StL).v = setO Fs k ⟨me, M1, addK (acqC s.v k) M1⟩) := Lib.hid ((v_setO s2 k _).trans (by rw [HV6.out]))
        have y0 : w8.cell? ⟨q, 0, none⟩ = some (.int .i64 1) := HQ8.out.cell 0
        have y1 : w8.cell? ⟨q, 1, none⟩ = some (.int .i64 (k : Int)) := HQ8.out.cell 1
        have y2 : w8.cell? ⟨q, 2, none⟩ = some (.int .i64 me) := HQ8.out.cell 2
        have y3 : w8.cell? ⟨q, 3, none⟩ = some (.int .i64 M1) := HQ8.out.cell 3
        have y4 : w8.cell? ⟨q, 4, none⟩ = some (.int .i64 0) := HQ8.out.cell 4
        have HBa : Hid (Below B w w8) := Lib.hid (((HBb.out.trans (HD5.out.mono (Nat.le_trans HC3.out.sz HB34.out.size))).trans HB6.out).trans HB8.out)
        have hok := acqS_ok (s := s.v) HKl.out HN8.out HNM.out (by rw [← HFe.out])
        rw [← HFe.out, HM1o.out, show s.v.me = me from HMe.out.symm] at hok
        have HOk2 := Lib.hid hok
        clear hw8 hC8 hB8 hok
        cases Fb with
        | false =>
          have HE : Hid ((Ss, Sn, Se) = (setO Fs k ⟨me, M1, addK (acqC s.v k) M1⟩, M1, 0)) := Lib.hid (by rw [HS.out, HOk2.out]; rfl)
          go_wp2
          go_ret2
          have e1 := HE.out
          injection e1 with e1 e2
          injection e2 with e2 e3
          first
            | exact ⟨_, by rw [e2, e3]; rfl, fun _ => ⟨HC8.out.x, by rw [e1]; exact HV8.out⟩, HBa.out⟩
            | exact ⟨by rw [e2, e3]; rfl, ⟨_, fun _ => ⟨HC8.out.x, by rw [e1]; exact HV8.out⟩⟩, HBa.out⟩
            | exact ⟨⟨_, fun _ => ⟨HC8.out.x, by rw [e1]; exact HV8.out⟩⟩, HBa.out⟩
        | true =>
          have hgs := acq_goes HGo.out HKl.out (by rw [← HFe.out])
          have HE : Hid ((Ss, Sn, Se) = (setO Fs k ⟨me, M1, holdK (addK [] M1)⟩, M1, 0)) := Lib.hid (by rw [HS.out, HOk2.out, hgs.1]; rfl)
          have HGd : Hid (Calls Try.prog 60 #[.pointer (some ⟨p, 0, none⟩), .agg #[.int .i64 1, .int .i64 (k : Int), .int .i64 me, .int .i64 M1, .int .i64 0]] w8 fun e w' => e = .returned (.tuple #[]) ∧ ∃ s3, Chg w' B p T g ps s3 ∧ s3.v = setO Fs k ⟨me, M1, holdK (addK [] M1)⟩ ∧ Below B w8 w' ∧ Frm w8 w' p ({s2 with os := s2.os.set k ⟨⟨me, M1, addK (acqC s.v k) M1⟩, ⟨A7, n7, k7⟩⟩} : StL)) := Lib.hid (by
            have hlo : k < s2.os.length := (List.getElem?_eq_some_iff.1 HO2.out).1
            have hO8 : ({s2 with os := s2.os.set k ⟨⟨me, M1, addK (acqC s.v k) M1⟩, ⟨A7, n7, k7⟩⟩} : StL).os[k]? = some ⟨⟨me, M1, addK (acqC s.v k) M1⟩, ⟨A7, n7, k7⟩⟩ := by show (s2.os.set k _)[k]? = _; rw [List.getElem?_set_self hlo]
            have hM := HMr.out
            have hkl := HKl.out
            have h8 := HGo.out.many.2
            have hmr := HGo.out.me
            rw [show s.v.me = me from HMe.out.symm] at hmr
            have hf := HG.out.few
            have hln := acq_len (s := s.v) HKl.out
            rw [← HFe.out] at hln
            have h7 : s2.v.os.length = s2.os.length := by simp [StL.v]
            rw [HV6.out, hln.1] at h7
            have hn9 : s2.so.n ≤ 1024 := by have h1 := (Row.Own.rd HC6.out.own.os.row).1; omega
            have hkf : k < Fs.os.length := by rw [hln.1]; exact hkl
            have := granted_frm HC8.out (m := ⟨1, (k : Int), me, M1, 0⟩) hO8 rfl ⟨by simp, by constructor <;> (simp only; omega), by constructor <;> (simp only; omega), by constructor <;> (simp only; omega), by simp⟩ (by show (addK (acqC s.v k) M1).length ≤ 1024; rw [hgs.1]; simp [addK]) (fun c hc => by
              have hc : c ∈ addK (acqC s.v k) M1 := hc
              rw [hgs.1] at hc
              have hc : c ∈ [(⟨M1, 1, -1, 0⟩ : Ce)] := hc
              rw [List.mem_singleton.1 hc]
              exact ⟨by constructor <;> (simp only; omega), by simp, by simp, by simp⟩) (fun i h0 hi => by
              have hi : i < (addK (acqC s.v k) M1).length := hi
              rw [hgs.1] at hi
              simp [addK] at hi
              omega) hn9
            refine this.mono ?_
            rintro e w' ⟨r1, s3, r2, r3, r4, r5⟩
            refine ⟨r1, s3, r2, ?_, r4, r5⟩
            rw [r3]
            refine (congrArg (fun z => passS z ⟨1, (k : Int), me, M1, 0⟩) HV8.out).trans ?_
            rw [hgs.1, acq_pass (s := setO Fs k ⟨me, M1, addK [] M1⟩) (a := me) (m := M1) (by rw [setO_len]; exact hkf) (objA_setT _ hkf), setO_setO])
          have HNq8 : Hid (∀ u ∈ stV ({s2 with os := s2.os.set k ⟨⟨me, M1, addK (acqC s.v k) M1⟩, ⟨A7, n7, k7⟩⟩} : StL), ownB u ≠ some q) := Lib.hid (by
            intro u hu e
            obtain ⟨v, hv, e2⟩ := Sub.setO (w := w6) (k := k) (o' := ⟨⟨me, M1, addK (acqC s.v k) M1⟩, ⟨A7, n7, k7⟩⟩) HO7.out.fresh u hu q e HQ6.out.lt
            obtain ⟨v3, hv3, e3⟩ := HSub.out v hv q e2 (Nat.lt_of_lt_of_le HQ4.out.lt HD5.out.size)
            exact HNq.out v3 hv3 e3)
          clear hgs
          go_wp2_with fail
          refine HGd.out.mono ?_
          rintro e w9 ⟨rfl, s3, hc, hv, hb, hfr⟩
          have HC9 := Lib.hid hc
          have HV9 := Lib.hid hv
          have HB9 := Lib.hid hb
          have hQ9 := hfr.blk HQ8.out (by have h1 := HPq.out; omega) HNq8.out
          have y39 : w9.cell? ⟨q, 3, none⟩ = some (.int .i64 M1) := hQ9.cell 3
          clear hc hv hb hfr hQ9 y0 y1 y2 y3 y4
          go_wp2
          go_ret2
          have e1 := HE.out
          injection e1 with e1 e2
          injection e2 with e2 e3
          exact ⟨s3, by rw [e2, e3]; rfl, fun _ => ⟨HC9.out.x, by rw [e1]; exact HV9.out⟩, HBa.out.trans HB9.out⟩
    · have t5 : (Fe != 0) = true := by simpa using he
      have HE : Hid ((Ss, Sn, Se) = (s.v, 0, Fe)) := Lib.hid (by
        have := acqS_err (s := s.v) HKl.out HN8.out HNM.out (by rw [← HFe.out]; exact he)
        rw [HS.out, this, ← HFe.out])
      have HNe := Lib.hid he
      clear he
      go_wp2
      go_ret2
      have e1 := HE.out
      injection e1 with e1 e2
      injection e2 with e2 e3
      exact ⟨s2, by rw [e2, e3]; rfl, fun h0 => absurd (e3.symm.trans h0) HNe.out, (HBb.out.trans (HD5.out.mono (Nat.le_trans HC3.out.sz HB34.out.size))).trans HB6.out⟩
end Go.Proofs.Ytiaafhcfeeekeaa.Pk

/- The change's release. -/
namespace Go.Proofs.Ytiaafhcfeeekeaa.Pk
open Go.RowKit Go.Proofs.Ytiaafhcfeeekeaa.Gr
set_option linter.unusedVariables false
theorem rel_mid {ps : List Int} {s : St} {k i : Nat} (h : GoodS ps s) (hk : k < s.os.length) (hh : heldAt (objA s k).c = some i) : GoodS ps (setO s k ⟨(objA s k).a, (objA s k).m, (relK (objA s k).c).1⟩) := by
  have ho := h.os _ (obj_mem hk)
  obtain ⟨g1, g2, g3, _⟩ := stay_rel ho.2.2.1 hh
  refine good_setO h ⟨ho.1, ho.2.1, g1, fun c hc => ?_⟩ hk ?_
  · obtain ⟨c0, h0, e1, e2⟩ := mem_rel hc
    have h9 := ho.2.2.2 c0 h0
    rw [e1, e2]; exact h9
  · show sumK s.os + openK (relK _).1 ≤ _
    have := h.few
    omega
theorem rel_meant {ps : List Int} {s : St} {k i : Nat} (h : GoodS ps s) (hk : k < s.os.length) (hh : heldAt (objA s k).c = some i) (hd : (relK (objA s k).c).2.1 ≠ -1) : MeantS (ps.length : Int) (s.os.length : Int) ⟨2, (k : Int), (relK (objA s k).c).2.1, (relK (objA s k).c).2.2.1, 0⟩ ∧ (1 ≤ (relK (objA s k).c).2.2.1 ∧ (relK (objA s k).c).2.2.1 ≤ 1099511627776) := by
  have ho := h.os _ (obj_mem hk)
  obtain ⟨q1, q2, q3, c, hc, q4⟩ := rel_next ho.2.2.1 hh hd
  have h9 := ho.2.2.2 c hc
  exact ⟨⟨by show (0 : Int) ≤ (k : Int); omega, by show (k : Int) < _; omega, q1, by show (relK _).2.1 < _; rw [← q4]; exact h9.2, by show (0 : Int) ≤ 0; omega, by show (0 : Int) < _; have := h.me; omega⟩, q2, q3⟩
set_option maxRecDepth 100000 in
set_option maxHeartbeats 8000000 in
theorem release_any {w : World} {B p T g : Nat} {ps : List Int} {s : StL} (h : Chg w B p T g ps s) (G : Gr.Good ps) (hg : GoodS ps s.v) {k : Nat} (hk : k < s.v.os.length) :
    Calls Try.prog 44 #[.pointer (some ⟨p, 0, none⟩), .int .i64 (k : Int)] w fun e w' => ∃ s2, e = .returned (.int .i64 (relS ps s.v k).2) ∧ ChgX w' B p T s2 ∧ s2.v = (relS ps s.v k).1 ∧ Below B w w' := by
  have HB : Hid (B ≤ w.heap.size) := Lib.hid h.sz
  have HC1 := Lib.hid h
  have HGo := Lib.hid hg
  have HG := Lib.hid G
  have HKl := Lib.hid hk
  have hol : s.os.length = s.v.os.length := by simp [StL.v]
  obtain ⟨o, ho, hov⟩ := own_at (s := s) (k := k) (by omega)
  obtain ⟨o1, o2, o3⟩ := good_own G hg hov
  have HO := Lib.hid ho
  have HA : Hid (objA s.v k = o.v) := Lib.hid (obj_at ho)
  obtain ⟨go, hgo, g1, g2, g3, g4, g5, g6, g7, g8, c0, c1, c2⟩ := h.obj ho
  obtain ⟨n, hn⟩ : ∃ n, n = s.so.n := ⟨_, rfl⟩
  obtain ⟨c, hc⟩ : ∃ c, c = s.so.c := ⟨_, rfl⟩
  have HSo : Hid (s.so = ⟨some ⟨go, 0, none⟩, n, c⟩) := Lib.hid (by rw [hn, hc]; cases hse : s.so; rw [hse] at hgo; simp only at hgo; rw [hgo])
  rw [← hn] at g5 g6 g7
  rw [← hc] at g4 g7
  have hn8 : n ≤ 8 := by have h2 := hg.many.2; omega
  have HVal : Hid (s.so.val = .slice (some ⟨go, 0, none⟩) n c) := Lib.hid (by rw [HSo.out]; rfl)
  have x2 : w.cell? ⟨p, 2, none⟩ = some (.slice (some ⟨go, 0, none⟩) n c) := by rw [← HVal.out]; exact h.box.cell 2
  obtain ⟨cA, cn, cc, hsl⟩ : ∃ cA cn cc, o.s = ⟨cA, cn, cc⟩ := ⟨_, _, _, rfl⟩
  have hin := h.inK ho o1 o2
  simp only [hsl, Sl.val] at c2 hin
  have HSl := Lib.hid hsl
  obtain ⟨R, hR⟩ : ∃ R, R = relK o.v.c := ⟨_, rfl⟩
  have HRl := Lib.hid (relC cA cn cc o.v.c w hin)
  rw [← hR] at HRl
  have HRe := Lib.hid hR
  obtain ⟨rl, rd, rx, re⟩ := R
  have HX : Hid (∀ W, Below w.heap.size w W → W.cell? ⟨go, k * 3 + 2, none⟩ = some (.slice cA cn cc) ∧ ∀ j, W.frozen? ⟨go, j, none⟩ = false) := Lib.hid (fun W hW => by
    obtain ⟨go', q1, -, -, -, -, -, -, -, q3, -, -, q4⟩ := (HC1.out.below hW).obj HO.out
    obtain rfl : go = go' := by rw [HSo.out] at q1; injection q1 with q1; injection q1
    simp only [HSl.out, Sl.val] at q4
    exact ⟨q4, q3⟩)
  obtain ⟨S, hS⟩ : ∃ S, S = relS ps s.v k := ⟨_, rfl⟩
  rw [← hS]
  have HS := Lib.hid hS
  obtain ⟨Ss, Se⟩ := S
  clear h hg G hk hol o1 o2 o3 hov ho hgo g1 g2 g3 g5 g8 c0 c1 hn hc hin hsl hR hS
  go_enter Try.func44, Try.ntmps44
  go_wp2_with fail
  refine HRl.out.mono ?_
  rintro e w2 ⟨v, rfl, ho2, hb2⟩
  have ho2 := OwnK.row ho2
  obtain ⟨A5, k5, rfl⟩ := Row.Own.sl ho2
  obtain ⟨n5, hn5⟩ : ∃ n, n = rl.length := ⟨_, rfl⟩
  rw [← hn5] at ho2 ⊢
  have HO2 := Lib.hid ho2
  have HB2 := Lib.hid hb2
  obtain ⟨z2, zf⟩ := HX.out w2 hb2
  clear ho2 hb2 hn5 x2 c2
  by_cases he : re = 0
  · have t1 : (re != 0) = false := by simpa using he
    obtain ⟨i, hi⟩ : ∃ i, heldAt o.v.c = some i := by
      cases hh : heldAt o.v.c with
      | some i => exact ⟨i, rfl⟩
      | none =>
        have h9 := (held_none hh).1
        rw [← HRe.out] at h9
        injection h9 with _ h9
        injection h9 with _ h9
        injection h9 with _ h9
        omega
    have hi' : heldAt (objA s.v k).c = some i := by rw [HA.out]; exact hi
    have HGm := Lib.hid (rel_mid HGo.out HKl.out hi')
    have HMt := Lib.hid (fun hd => rel_meant HGo.out HKl.out hi' hd)
    have hput := HC1.out.putO (j := 2) (o' := ⟨⟨o.v.a, o.v.m, rl⟩, ⟨A5, n5, k5⟩⟩) (u := .slice A5 n5 k5) HO.out (by omega) rfl HSo.out HB2.out (HO2.out.low HB.out) (.inr (HO2.out.fresh))
    obtain ⟨W3, hW3⟩ : ∃ W, W = w2.setCell ⟨go, k * 3 + 2, none⟩ (.slice A5 n5 k5) := ⟨_, rfl⟩
    rw [← hW3] at hput
    obtain ⟨hC3, hB3⟩ := hput
    have HC3 := Lib.hid hC3
    have HB3 := Lib.hid hB3
    have HV3 : Hid (({s with os := s.os.set k ⟨⟨o.v.a, o.v.m, rl⟩, ⟨A5, n5, k5⟩⟩} : StL).v = setO s.v k ⟨o.v.a, o.v.m, rl⟩) := Lib.hid (v_setO _ _ _)
    have HW3 := Lib.hid hW3
    clear hC3 hB3 hW3 hi hi'
    by_cases hd : rd = -1
    · have t2 : (rd == -1) = true := by simpa using hd
      have HE : Hid ((Ss, Se) = (setO s.v k ⟨o.v.a, o.v.m, rl⟩, 0)) := Lib.hid (by
        rw [HS.out]; unfold relS; rw [HA.out, ← HRe.out, if_neg (by show ¬ re ≠ 0; omega), if_pos hd])
      clear he hd
      go_wp2
      go_ret
      rw [← HW3.out]
      have e1 := HE.out
      injection e1 with e1 e2
      exact ⟨_, by rw [e2]; rfl, HC3.out.x, by rw [e1]; exact HV3.out, HB3.out⟩
    · have t2 : (rd == -1) = false := by simpa using hd
      have HE : Hid ((Ss, Se) = towardS ps (setO s.v k ⟨o.v.a, o.v.m, rl⟩) ⟨2, (k : Int), rd, rx, 0⟩) := Lib.hid (by
        rw [HS.out]; unfold relS; rw [HA.out, ← HRe.out, if_neg (by show ¬ re ≠ 0; omega), if_neg hd])
      have hmt := HMt.out (by rw [HA.out, ← HRe.out]; exact hd)
      rw [HA.out, ← HRe.out] at hmt
      have hgm := HGm.out
      rw [HA.out, ← HRe.out] at hgm
      have HTo : Hid (Calls Try.prog 62 #[.pointer (some ⟨p, 0, none⟩), .agg #[.int .i64 2, .int .i64 (k : Int), .int .i64 rd, .int .i64 rx, .int .i64 0]] W3 fun e w' => ∃ s2, e = .returned (.int .i64 (towardS ps (setO s.v k ⟨o.v.a, o.v.m, rl⟩) ⟨2, (k : Int), rd, rx, 0⟩).2) ∧ ChgX w' B p T s2 ∧ s2.v = (towardS ps (setO s.v k ⟨o.v.a, o.v.m, rl⟩) ⟨2, (k : Int), rd, rx, 0⟩).1 ∧ Below B W3 w') := Lib.hid (by
        have h8 := HGo.out.many.2
        have hf := HG.out.few
        have h7 := HKl.out
        have := towards_any HC3.out HG.out (by rw [HV3.out]; exact hgm) (m := ⟨2, (k : Int), rd, rx, 0⟩) ⟨by simp, by constructor <;> (simp only; omega), by have := hmt.1.2.2.1; have := hmt.1.2.2.2.1; constructor <;> (simp only at *; omega), by have := hmt.2; constructor <;> (simp only at *; omega), by simp⟩ (by rw [HV3.out]; show MeantS _ ((s.v.os.set k _).length : Int) _; rw [List.length_set]; exact hmt.1)
        rw [HV3.out] at this
        exact this)
      clear he hd hmt hgm
      go_wp2_with fail
      rw [← HW3.out]
      refine HTo.out.mono ?_
      rintro e w5 ⟨s2, rfl, hc, hv, hb⟩
      have HC5 := Lib.hid hc
      have HV5 := Lib.hid hv
      have HB5 := Lib.hid hb
      clear hc hv hb
      go_wp2
      go_ret
      have e1 := HE.out
      exact ⟨s2, by rw [← e1]; rfl, HC5.out, by rw [HV5.out, ← e1], HB3.out.trans HB5.out⟩
  · have t1 : (re != 0) = true := by simpa using he
    have HE : Hid ((Ss, Se) = (s.v, re)) := Lib.hid (by
      rw [HS.out]; unfold relS; rw [HA.out, ← HRe.out, if_pos he])
    clear he
    go_wp2
    go_ret
    have e1 := HE.out
    injection e1 with e1 e2
    exact ⟨s, by rw [e2]; rfl, (HC1.out.below HB2.out).x, e1.symm, HB2.out.mono HB.out⟩
end Go.Proofs.Ytiaafhcfeeekeaa.Pk
