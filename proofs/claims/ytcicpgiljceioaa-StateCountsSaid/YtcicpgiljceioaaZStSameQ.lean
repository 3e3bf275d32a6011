/- The landed Same of package state. -/
import Derived.Test.YtcicpgiljceioaaZStSameP
namespace Go.Proofs.Ytcicpgiljceioaa.Pk
open Go.RowKit
set_option linter.unusedVariables false
attribute [local go_sem] Oper.semAt_some
set_option maxRecDepth 100000 in
set_option maxHeartbeats 8000000 in
theorem sameS : StSameP := by
  intro s t w hs ht
  have HI := Lib.hid hs
  have HT := Lib.hid ht
  obtain ⟨me, os, ⟨A, n, c⟩, es, ⟨A', n', c'⟩, q, as_, ⟨Aa, na, ca⟩, gs, ⟨Ag, ng, cg⟩⟩ := s
  obtain ⟨me2, os2, ⟨D, m, d⟩, es2, ⟨D', m', d'⟩, q2, as2, ⟨Da, ma, da⟩, gs2, ⟨Dg, mg, dg⟩⟩ := t
  obtain ⟨r, hr⟩ : ∃ r, r = decide ((⟨me, os, ⟨A, n, c⟩, es, ⟨A', n', c'⟩, q, as_, ⟨Aa, na, ca⟩, gs, ⟨Ag, ng, cg⟩⟩ : StL).v = (⟨me2, os2, ⟨D, m, d⟩, es2, ⟨D', m', d'⟩, q2, as2, ⟨Da, ma, da⟩, gs2, ⟨Dg, mg, dg⟩⟩ : StL).v) := ⟨_, rfl⟩
  obtain ⟨r1, h1⟩ : ∃ r1, r1 = decide (os.map (·.v) = os2.map (·.v)) := ⟨_, rfl⟩
  obtain ⟨r2, h2⟩ : ∃ r2, r2 = decide (es.map (·.v) = es2.map (·.v)) := ⟨_, rfl⟩
  obtain ⟨r3, h3⟩ : ∃ r3, r3 = decide (as_ = as2) := ⟨_, rfl⟩
  obtain ⟨r4, h4⟩ : ∃ r4, r4 = decide (gs = gs2) := ⟨_, rfl⟩
  have HR : Hid (r = (decide (me = me2) && decide (q = q2) && r1 && r2 && r3 && r4)) := Lib.hid (by
    rw [hr, h1, h2, h3, h4]
    simp only [StL.v, St.mk.injEq, Bool.decide_and, Bool.and_assoc]
    cases decide (me = me2) <;> cases decide (q = q2) <;> cases decide (os.map (·.v) = os2.map (·.v)) <;> cases decide (es.map (·.v) = es2.map (·.v)) <;> rfl)
  rw [← hr]
  clear hr hs ht
  obtain ⟨p, hp⟩ : ∃ p, p = w.heap.size := ⟨_, rfl⟩
  obtain ⟨pt, hpt⟩ : ∃ x, x = p + 1 := ⟨_, rfl⟩
  obtain ⟨wa, hwa⟩ : ∃ wa, wa = w.alloc (.cells #[.int .i64 me, .slice A n c, .slice A' n' c', .int .i64 q, .slice Aa na ca, .slice Ag ng cg] 30) := ⟨_, rfl⟩
  obtain ⟨W1, hW1⟩ : ∃ W1, W1 = wa.alloc (.cells #[.int .i64 me2, .slice D m d, .slice D' m' d', .int .i64 q2, .slice Da ma da, .slice Dg mg dg] 30) := ⟨_, rfl⟩
  have hsa : wa.heap.size = p + 1 := by rw [hwa, World.size_alloc, hp]
  have hba : Below w.heap.size w wa := hwa ▸ (Below.refl _ _).alloc (Nat.le_refl _) _
  have HB1 : Hid (Below w.heap.size w W1) := Lib.hid (hW1 ▸ hba.alloc (by omega) _)
  have HKp : Hid (Blk W1 p 30 #[.int .i64 me, .slice A n c, .slice A' n' c', .int .i64 q, .slice Aa na ca, .slice Ag ng cg]) := Lib.hid (by rw [hW1, hwa, hp]; exact (Blk.new w _ _).alloc _)
  have HKt : Hid (Blk W1 pt 30 #[.int .i64 me2, .slice D m d, .slice D' m' d', .int .i64 q2, .slice Da ma da, .slice Dg mg dg]) := Lib.hid (by rw [hW1, hpt, ← hsa]; exact Blk.new wa _ _)
  have HX : ∀ W, Below W1.heap.size W1 W → Below w.heap.size w W := fun W hW => HB1.out.trans (hW.mono HB1.out.size)
  have HS : Hid (∀ W, Below W1.heap.size W1 W → W.cell? ⟨p, 1, none⟩ = some (.slice A n c) ∧ W.cell? ⟨p, 2, none⟩ = some (.slice A' n' c') ∧ W.cell? ⟨p, 4, none⟩ = some (.slice Aa na ca) ∧ W.cell? ⟨p, 5, none⟩ = some (.slice Ag ng cg) ∧ W.cell? ⟨pt, 1, none⟩ = some (.slice D m d) ∧ W.cell? ⟨pt, 2, none⟩ = some (.slice D' m' d') ∧ W.cell? ⟨pt, 4, none⟩ = some (.slice Da ma da) ∧ W.cell? ⟨pt, 5, none⟩ = some (.slice Dg mg dg)) := Lib.hid (fun W hW =>
    ⟨(HKp.out.below hW HKp.out.lt).cell 1, (HKp.out.below hW HKp.out.lt).cell 2, (HKp.out.below hW HKp.out.lt).cell 4, (HKp.out.below hW HKp.out.lt).cell 5, (HKt.out.below hW HKt.out.lt).cell 1, (HKt.out.below hW HKt.out.lt).cell 2, (HKt.out.below hW HKt.out.lt).cell 4, (HKt.out.below hW HKt.out.lt).cell 5⟩)
  have HC1 : Hid (∀ W, Below W1.heap.size W1 W → Calls Try.prog 44 #[.slice A n c, .slice D m d, .func (.func 45) #[] #[]] W fun e w' => e = .returned (.bool r1) ∧ Below W1.heap.size W1 w') := Lib.hid (fun W hW => by
    refine (eqfunc_owR _ _ os os2 W (HI.out.os.next (HX W hW)) (HT.out.os.next (HX W hW)) (fun x hx => (HI.out.o x hx).next (HX W hW)) (fun x hx => (HT.out.o x hx).next (HX W hW))).mono ?_
    rintro e w' ⟨rfl, h⟩
    exact ⟨by rw [h1], hW.trans (h.mono hW.size)⟩)
  have HC2 : Hid (∀ W, Below W1.heap.size W1 W → Calls Try.prog 46 #[.slice A' n' c', .slice D' m' d', .func (.func 47) #[] #[]] W fun e w' => e = .returned (.bool r2) ∧ Below W1.heap.size W1 w') := Lib.hid (fun W hW => by
    refine (eqfunc_sdR _ _ es es2 W (HI.out.es.next (HX W hW)) (HT.out.es.next (HX W hW)) (fun x hx => (HI.out.e x hx).next (HX W hW)) (fun x hx => (HT.out.e x hx).next (HX W hW))).mono ?_
    rintro e w' ⟨rfl, h⟩
    exact ⟨by rw [h2], hW.trans (h.mono hW.size)⟩)
  have HC3 : Hid (∀ W, Below W1.heap.size W1 W → Calls Try.prog 48 #[.slice Aa na ca, .slice Da ma da] W fun e w' => e = .returned (.bool r3) ∧ Below W1.heap.size W1 w') := Lib.hid (fun W hW => by
    refine (equal_akR _ _ as_ as2 W (HI.out.as_.next (HX W hW)) (HT.out.as_.next (HX W hW))).mono ?_
    rintro e w' ⟨rfl, h⟩
    exact ⟨by rw [h3], hW.trans (h.mono hW.size)⟩)
  have HC4 : Hid (∀ W, Below W1.heap.size W1 W → Calls Try.prog 49 #[.slice Ag ng cg, .slice Dg mg dg] W fun e w' => e = .returned (.bool r4) ∧ Below W1.heap.size W1 w') := Lib.hid (fun W hW => by
    refine (equal_fdR _ _ gs gs2 W (HI.out.gs.next (HX W hW)) (HT.out.gs.next (HX W hW))).mono ?_
    rintro e w' ⟨rfl, h⟩
    exact ⟨by rw [h4], hW.trans (h.mono hW.size)⟩)
  have HXX := Lib.hid HX
  clear h1 h2 h3 h4 hsa hba HX
  have y0 := HKp.out.cell 0
  have y3 := HKp.out.cell 3
  have x0 := HKt.out.cell 0
  have x3 := HKt.out.cell 3
  obtain ⟨y1, y2, y4, y5, x1, x2, x4, x5⟩ := HS.out W1 (Below.refl _ _)
  have HP : Hid (w.heap.size = p) := Lib.hid hp.symm
  have HPt : Hid (p + 1 = pt) := Lib.hid hpt.symm
  clear hp hpt
  show Calls Try.prog 22 #[.agg #[.int .i64 me, .slice A n c, .slice A' n' c', .int .i64 q, .slice Aa na ca, .slice Ag ng cg], .agg #[.int .i64 me2, .slice D m d, .slice D' m' d', .int .i64 q2, .slice Da ma da, .slice Dg mg dg]] w _
  have HW : Hid (W1 = (w.alloc (.cells #[.int .i64 me, .slice A n c, .slice A' n' c', .int .i64 q, .slice Aa na ca, .slice Ag ng cg] 30)).alloc (.cells #[.int .i64 me2, .slice D m d, .slice D' m' d', .int .i64 q2, .slice Da ma da, .slice Dg mg dg] 30)) := Lib.hid (by rw [hW1, hwa])
  have HU : Hid (Below w.heap.size w ((w.alloc (.cells #[.int .i64 me, .slice A n c, .slice A' n' c', .int .i64 q, .slice Aa na ca, .slice Ag ng cg] 30)).alloc (.cells #[.int .i64 me2, .slice D m d, .slice D' m' d', .int .i64 q2, .slice Da ma da, .slice Dg mg dg] 30))) := Lib.hid (HW.out ▸ HB1.out)
  clear hwa hW1
  by_cases g0 : me = me2
  case neg =>
    have t0 : (me == me2) = false := by simp [g0]
    have hrf : r = false := by rw [HR.out]; simp [g0]
    clear g0
    go_enter Try.func22, Try.ntmps22
    go_wp2_with fail
    go_ret
    exact ⟨by first | rfl | (rw [hrf]; rfl), HU.out⟩
  by_cases g1 : q = q2
  case neg =>
    have t0 : (me == me2) = true := by simp [g0]
    have t1 : (q == q2) = false := by simp [g1]
    have hrf : r = false := by rw [HR.out]; simp [g1]
    clear g0 g1
    go_enter Try.func22, Try.ntmps22
    go_wp2_with fail
    go_ret
    exact ⟨by first | rfl | (rw [hrf]; rfl), HU.out⟩
  have t0 : (me == me2) = true := by simp [g0]
  have t1 : (q == q2) = true := by simp [g1]
  have HR2 : Hid (r = (r1 && r2 && r3 && r4)) := Lib.hid (by rw [HR.out]; simp [g0, g1])
  clear g0 g1 HR
  go_enter Try.func22, Try.ntmps22
  go_wp2_with fail
  rw [← HW.out, HP.out, HPt.out]
  refine (HC1.out _ (Below.refl _ _)).mono ?_
  rintro e V1 ⟨rfl, hv1⟩
  have HV1 := Lib.hid hv1
  clear y1 y2 y4 y5 x1 x2 x4 x5
  obtain ⟨y1, y2, y4, y5, x1, x2, x4, x5⟩ := HS.out V1 hv1
  clear hv1
  cases r1 with
  | false =>
    have hrf : r = false := by rw [HR2.out]; simp
    go_wp2_with fail
    go_ret
    exact ⟨by first | rfl | (rw [hrf]; rfl), HXX.out _ HV1.out⟩
  | true =>
    go_wp2_with fail
    refine (HC2.out _ HV1.out).mono ?_
    rintro e V2 ⟨rfl, hv2⟩
    have HV2 := Lib.hid hv2
    clear y1 y2 y4 y5 x1 x2 x4 x5
    obtain ⟨y1, y2, y4, y5, x1, x2, x4, x5⟩ := HS.out V2 hv2
    clear hv2
    cases r2 with
    | false =>
      have hrf : r = false := by rw [HR2.out]; simp
      go_wp2_with fail
      go_ret
      exact ⟨by first | rfl | (rw [hrf]; rfl), HXX.out _ HV2.out⟩
    | true =>
      go_wp2_with fail
      refine (HC3.out _ HV2.out).mono ?_
      rintro e V3 ⟨rfl, hv3⟩
      have HV3 := Lib.hid hv3
      clear y1 y2 y4 y5 x1 x2 x4 x5
      obtain ⟨y1, y2, y4, y5, x1, x2, x4, x5⟩ := HS.out V3 hv3
      clear hv3
      cases r3 with
      | false =>
        have hrf : r = false := by rw [HR2.out]; simp
        go_wp2_with fail
        go_ret
        exact ⟨by first | rfl | (rw [hrf]; rfl), HXX.out _ HV3.out⟩
      | true =>
        go_wp2_with fail
        refine (HC4.out _ HV3.out).mono ?_
        rintro e V4 ⟨rfl, hv4⟩
        have HV4 := Lib.hid hv4
        clear y1 y2 y4 y5 x1 x2 x4 x5
        obtain ⟨y1, y2, y4, y5, x1, x2, x4, x5⟩ := HS.out V4 hv4
        clear hv4
        cases r4 with
        | false =>
          have hrf : r = false := by rw [HR2.out]; simp
          go_wp2_with fail
          go_ret
          exact ⟨by first | rfl | (rw [hrf]; rfl), HXX.out _ HV4.out⟩
        | true =>
          have hrf : r = true := by rw [HR2.out]; rfl
          go_wp2_with fail
          go_ret
          exact ⟨by first | rfl | (rw [hrf]; rfl), HXX.out _ HV4.out⟩
end Go.Proofs.Ytcicpgiljceioaa.Pk
