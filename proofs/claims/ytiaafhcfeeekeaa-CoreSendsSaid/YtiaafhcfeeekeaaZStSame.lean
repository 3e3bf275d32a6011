/- The document's answers (fletchref14): Same. -/
import Derived.Test.YtiaafhcfeeekeaaZTrCheck
import Derived.Test.YtiaafhcfeeekeaaZSameHf
import Derived.Deep.RegionHeld3
import Derived.Deep.DeepMust
namespace Go.Proofs.Ytiaafhcfeeekeaa.Pk
open Go.RowKit
set_option linter.unusedVariables false
attribute [local go_sem] Oper.semAt_some
theorem eq_ak (a0 a1 b0 b1 : Int) (w : World) : (Op.equalIn 10000 59 (.agg #[.int .i64 a0, .int .i64 a1]) (.agg #[.int .i64 b0, .int .i64 b1])).run Try.prog w = .ok (decide ((⟨a0, a1⟩ : Ak) = ⟨b0, b1⟩)) w := by
  have u3 := Try.underlying3
  have a3 := Try.isAgg3
  have z3 := Try.sizeOf3
  have hst : Try.prog.stoodInHeld 59 = false := by kernel_rfl
  rw [show (10000 : Nat) = 9999 + 1 from rfl, Op.equalIn]
  simp only [Sem.run_bind, run_underlying Try.underlying59, Result.andThen_ok]
  go_simp
  by_cases h0 : a0 = b0 <;> by_cases h1 : a1 = b1 <;> simp [h0, h1]
theorem eq_fd (a0 a1 a2 b0 b1 b2 : Int) (w : World) : (Op.equalIn 10000 61 (.agg #[.int .i64 a0, .int .i64 a1, .int .i64 a2]) (.agg #[.int .i64 b0, .int .i64 b1, .int .i64 b2])).run Try.prog w = .ok (decide ((⟨a0, a1, a2⟩ : Fnd) = ⟨b0, b1, b2⟩)) w := by
  have u3 := Try.underlying3
  have a3 := Try.isAgg3
  have z3 := Try.sizeOf3
  have hst : Try.prog.stoodInHeld 61 = false := by kernel_rfl
  rw [show (10000 : Nat) = 9999 + 1 from rfl, Op.equalIn]
  simp only [Sem.run_bind, run_underlying Try.underlying61, Result.andThen_ok]
  go_simp
  by_cases h0 : a0 = b0 <;> by_cases h1 : a1 = b1 <;> by_cases h2 : a2 = b2 <;> simp [h0, h1, h2]
/-- The first k of both are the same. -/
def AlikeX {α : Type} (l r : List α) (k : Nat) : Prop := ∀ j, j < k → l[j]? = r[j]?
theorem alikeX_all {α : Type} {l r : List α} {n : Nat} (h : AlikeX l r n) (hl : l.length = n) (hr : r.length = n) : l = r := by
  apply List.ext_getElem?
  intro i
  rcases Nat.lt_or_ge i n with h1 | h1
  · exact h i h1
  · rw [List.getElem?_eq_none (by omega), List.getElem?_eq_none (by omega)]
theorem alikeX_succ {α : Type} {l r : List α} {k : Nat} (h : AlikeX l r k) (e : l[k]? = r[k]?) : AlikeX l r (k + 1) := by
  intro j hj
  rcases Nat.lt_or_ge j k with h1 | h1
  · exact h j h1
  · obtain rfl : j = k := by omega
    exact e
set_option maxRecDepth 100000 in
set_option maxHeartbeats 16000000 in
theorem refsames_any (s t : StL) (w : World) (hs : InS w s) (ht : InS w t) :
    Calls Try.prog 17 #[s.val, t.val] w fun e w' => e = .returned (.bool (decide (s.v = t.v))) ∧ Below w.heap.size w w' := by
  have HI := Lib.hid hs
  have HT := Lib.hid ht
  obtain ⟨r, hr⟩ : ∃ r, r = decide (s.v = t.v) := ⟨_, rfl⟩
  rw [← hr]
  have HRr := Lib.hid hr
  clear hr
  obtain ⟨me, os, ⟨A, n, c⟩, es, ⟨A', n', c'⟩, q, as_, ⟨Aa, na, ca⟩, gs, ⟨Ag, ng, cg⟩⟩ := s
  obtain ⟨me2, os2, ⟨D, m, d⟩, es2, ⟨D', m', d'⟩, q2, as2, ⟨Da, ma, da⟩, gs2, ⟨Dg, mg, dg⟩⟩ := t
  have L1 : Hid (os.length = n) := Lib.hid hs.os.len
  have L2 : Hid (es.length = n') := Lib.hid hs.es.len
  have L3 : Hid (as_.length = na) := Lib.hid hs.as_.len
  have L4 : Hid (gs.length = ng) := Lib.hid hs.gs.len
  have M1 : Hid (os2.length = m) := Lib.hid ht.os.len
  have M2 : Hid (es2.length = m') := Lib.hid ht.es.len
  have M3 : Hid (as2.length = ma) := Lib.hid ht.as_.len
  have M4 : Hid (gs2.length = mg) := Lib.hid ht.gs.len
  have b1 : n * 40 ≤ 140737488351232 := hs.os.few
  have b2 : n' * 48 ≤ 140737488351232 := hs.es.few
  have b3 : na * 16 ≤ 140737488351232 := hs.as_.few
  have b4 : ng * 24 ≤ 140737488351232 := hs.gs.few
  have k1 : n ≤ c := hs.os.cap
  have k2 : n' ≤ c' := hs.es.cap
  have k3 : na ≤ ca := hs.as_.cap
  have k4 : ng ≤ cg := hs.gs.cap
  have j1 : m ≤ d := ht.os.cap
  have j2 : m' ≤ d' := ht.es.cap
  have j3 : ma ≤ da := ht.as_.cap
  have j4 : mg ≤ dg := ht.gs.cap
  clear hs ht
  have HF : Hid ((me ≠ me2 ∨ q ≠ q2 ∨ n ≠ m ∨ n' ≠ m' ∨ na ≠ ma ∨ ng ≠ mg) → r = false) := Lib.hid (fun h => by
    rw [HRr.out]
    refine decide_eq_false (fun e => ?_)
    have e1 := congrArg St.me e
    have e2 := congrArg St.q e
    have e3 := congrArg (fun x => x.os.length) e
    have e4 := congrArg (fun x => x.es.length) e
    have e5 := congrArg (fun x => x.as_.length) e
    have e6 := congrArg (fun x => x.gs.length) e
    simp only [StL.v, List.length_map, L1.out, L2.out, L3.out, L4.out, M1.out, M2.out, M3.out, M4.out] at e1 e2 e3 e4 e5 e6
    omega)
  have HE : Hid (me = me2 → q = q2 → r = decide (os.map (·.v) = os2.map (·.v) ∧ es.map (·.v) = es2.map (·.v) ∧ as_ = as2 ∧ gs = gs2)) := Lib.hid (fun h1 h2 => by
    subst h1; subst h2
    rw [HRr.out]
    refine decide_eq_decide.2 ⟨fun e => ?_, fun e => ?_⟩
    · simp only [StL.v, St.mk.injEq] at e
      exact ⟨e.2.1, e.2.2.1, e.2.2.2.2.1, e.2.2.2.2.2⟩
    · obtain ⟨e1, e2, e3, e4⟩ := e
      simp only [StL.v, e1, e2, e3, e4])
  show Calls Try.prog 17 #[.agg #[.int .i64 me, .slice A n c, .slice A' n' c', .int .i64 q, .slice Aa na ca, .slice Ag ng cg], .agg #[.int .i64 me2, .slice D m d, .slice D' m' d', .int .i64 q2, .slice Da ma da, .slice Dg mg dg]] w _
  obtain ⟨p, hp⟩ : ∃ p, p = w.heap.size := ⟨_, rfl⟩
  obtain ⟨pt, hpt⟩ : ∃ x, x = p + 1 := ⟨_, rfl⟩
  obtain ⟨wa, hwa⟩ : ∃ wa, wa = w.alloc (.cells #[.int .i64 me, .slice A n c, .slice A' n' c', .int .i64 q, .slice Aa na ca, .slice Ag ng cg] 28) := ⟨_, rfl⟩
  obtain ⟨W1, hW1⟩ : ∃ W1, W1 = wa.alloc (.cells #[.int .i64 me2, .slice D m d, .slice D' m' d', .int .i64 q2, .slice Da ma da, .slice Dg mg dg] 28) := ⟨_, rfl⟩
  have hsa : wa.heap.size = p + 1 := by rw [hwa, World.size_alloc, hp]
  have hba : Below w.heap.size w wa := hwa ▸ (Below.refl _ _).alloc (Nat.le_refl _) _
  have HB1 : Hid (Below w.heap.size w W1) := Lib.hid (hW1 ▸ hba.alloc (by omega) _)
  have HKp : Hid (Blk W1 p 28 #[.int .i64 me, .slice A n c, .slice A' n' c', .int .i64 q, .slice Aa na ca, .slice Ag ng cg]) := Lib.hid (by rw [hW1, hwa, hp]; exact (Blk.new w _ _).alloc _)
  have HKt : Hid (Blk W1 pt 28 #[.int .i64 me2, .slice D m d, .slice D' m' d', .int .i64 q2, .slice Da ma da, .slice Dg mg dg]) := Lib.hid (by rw [hW1, hpt, ← hsa]; exact Blk.new wa _ _)
  by_cases g0 : me = me2
  case neg =>
    have t0 : (me != me2) = true := by simp; omega
    have hrf : r = false := HF.out (by omega)
    clear g0
    go_enter Try.func17, Try.ntmps17
    go_wp2
    go_ret
    exact ⟨by rw [hrf]; rfl, by rw [← hwa, ← hW1]; exact HB1.out⟩
  case pos =>
  by_cases g1 : q = q2
  case neg =>
    have t0 : (me != me2) = false := by simp; omega
    have t1 : (q != q2) = true := by simp; omega
    have hrf : r = false := HF.out (by omega)
    clear g0 g1
    go_enter Try.func17, Try.ntmps17
    go_wp2
    go_ret
    exact ⟨by rw [hrf]; rfl, by rw [← hwa, ← hW1]; exact HB1.out⟩
  case pos =>
  by_cases g2 : n = m
  case neg =>
    have t0 : (me != me2) = false := by simp; omega
    have t1 : (q != q2) = false := by simp; omega
    have t2 : ((n : Int) != (m : Int)) = true := by simp; omega
    have hrf : r = false := HF.out (by omega)
    clear g0 g1 g2
    go_enter Try.func17, Try.ntmps17
    go_wp2
    go_ret
    exact ⟨by rw [hrf]; rfl, by rw [← hwa, ← hW1]; exact HB1.out⟩
  case pos =>
  by_cases g3 : n' = m'
  case neg =>
    have t0 : (me != me2) = false := by simp; omega
    have t1 : (q != q2) = false := by simp; omega
    have t2 : ((n : Int) != (m : Int)) = false := by simp; omega
    have t3 : ((n' : Int) != (m' : Int)) = true := by simp; omega
    have hrf : r = false := HF.out (by omega)
    clear g0 g1 g2 g3
    go_enter Try.func17, Try.ntmps17
    go_wp2
    go_ret
    exact ⟨by rw [hrf]; rfl, by rw [← hwa, ← hW1]; exact HB1.out⟩
  case pos =>
  by_cases g4 : na = ma
  case neg =>
    have t0 : (me != me2) = false := by simp; omega
    have t1 : (q != q2) = false := by simp; omega
    have t2 : ((n : Int) != (m : Int)) = false := by simp; omega
    have t3 : ((n' : Int) != (m' : Int)) = false := by simp; omega
    have t4 : ((na : Int) != (ma : Int)) = true := by simp; omega
    have hrf : r = false := HF.out (by omega)
    clear g0 g1 g2 g3 g4
    go_enter Try.func17, Try.ntmps17
    go_wp2
    go_ret
    exact ⟨by rw [hrf]; rfl, by rw [← hwa, ← hW1]; exact HB1.out⟩
  case pos =>
  by_cases g5 : ng = mg
  case neg =>
    have t0 : (me != me2) = false := by simp; omega
    have t1 : (q != q2) = false := by simp; omega
    have t2 : ((n : Int) != (m : Int)) = false := by simp; omega
    have t3 : ((n' : Int) != (m' : Int)) = false := by simp; omega
    have t4 : ((na : Int) != (ma : Int)) = false := by simp; omega
    have t5 : ((ng : Int) != (mg : Int)) = true := by simp; omega
    have hrf : r = false := HF.out (by omega)
    clear g0 g1 g2 g3 g4 g5
    go_enter Try.func17, Try.ntmps17
    go_wp2
    go_ret
    exact ⟨by rw [hrf]; rfl, by rw [← hwa, ← hW1]; exact HB1.out⟩
  case pos =>
  have t0 : (me != me2) = false := by simp; omega
  have t1 : (q != q2) = false := by simp; omega
  have t2 : ((n : Int) != (m : Int)) = false := by simp; omega
  have t3 : ((n' : Int) != (m' : Int)) = false := by simp; omega
  have t4 : ((na : Int) != (ma : Int)) = false := by simp; omega
  have t5 : ((ng : Int) != (mg : Int)) = false := by simp; omega
  have HEq := Lib.hid (HE.out g0 g1)
  subst g0; subst g1; subst g2; subst g3; subst g4; subst g5
  have HP1 : Hid (w.heap.size = p) := Lib.hid hp.symm
  have HP2 : Hid (w.heap.size + 1 = pt) := Lib.hid (by omega)
  clear HF HE
  go_enter Try.func17, Try.ntmps17
  go_wp2_with fail
  rw [← hwa, ← hW1, ← hp, ← hpt]
  clear hwa hW1 hp hpt hsa hba
  go_loopw [60] (fun j wr => ∃ i : Nat, j = .int .i64 i ∧ i ≤ n ∧ AlikeX (os.map (·.v)) (os2.map (·.v)) i ∧ Below W1.heap.size W1 wr) (fun j _ => n - (intOf j).toNat)
  case atStart => exact ⟨0, rfl, by omega, (fun j hj => by omega), Below.refl _ _⟩
  case round =>
    obtain ⟨i, rfl, hi, hal, hb⟩ := hrel
    obtain ⟨V0, rfl⟩ : ∃ V : World, V = wr := ⟨_, rfl⟩
    have HA := Lib.hid hal
    have HBV := Lib.hid hb
    clear hal hb
    by_cases hlt : i < n
    · have hil : i < os.length := by rw [L1.out]; exact hlt
      have hil2 : i < os2.length := by rw [M1.out]; exact hlt
      obtain ⟨b, off, rfl, hbw, hc⟩ := owR.spots (HI.out.os.next HB1.out).rd (show 0 < n by omega)
      obtain ⟨b', off', rfl, hbw', hc'⟩ := owR.spots (HT.out.os.next HB1.out).rd (show 0 < n by omega)
      have hg := owA_get hil
      have hg2 := owA_get hil2
      have HOk := Lib.hid (HI.out.o _ (List.mem_of_getElem? hg))
      have HOk2 := Lib.hid (HT.out.o _ (List.mem_of_getElem? hg2))
      obtain ⟨x1, hx1⟩ : ∃ r, r = owA os i := ⟨_, rfl⟩
      obtain ⟨x2, hx2⟩ : ∃ r, r = owA os2 i := ⟨_, rfl⟩
      rw [← hx1] at hg HOk
      rw [← hx2] at hg2 HOk2
      have HG1 : Hid ((os.map (·.v))[i]? = some x1.v) := Lib.hid (by rw [List.getElem?_map, hg]; rfl)
      have HG2 : Hid ((os2.map (·.v))[i]? = some x2.v) := Lib.hid (by rw [List.getElem?_map, hg2]; rfl)
      have e0 := hc i x1 hg 0 _ rfl
      have e1 := hc i x1 hg 1 _ rfl
      have e2 := hc i x1 hg 2 _ rfl
      have f0 := hc' i x2 hg2 0 _ rfl
      have f1 := hc' i x2 hg2 1 _ rfl
      have f2 := hc' i x2 hg2 2 _ rfl
      obtain ⟨⟨ra, rm, rc⟩, ⟨A1, n1, c1⟩⟩ := x1
      obtain ⟨⟨ta, tm, tc⟩, ⟨A2, n2, c2⟩⟩ := x2
      simp only [owR, Nat.add_zero, Sl.val, ← Nat.add_assoc] at e0 e1 e2 f0 f1 f2
      have HS : Hid (∀ W, Below W1.heap.size W1 W → W.cell? ⟨p, 1, none⟩ = some (.slice (some ⟨b, off, none⟩) n c) ∧ W.cell? ⟨pt, 1, none⟩ = some (.slice (some ⟨b', off', none⟩) n d) ∧ W.cell? ⟨b, off + i * 3, none⟩ = some (.int .i64 ra) ∧ W.cell? ⟨b, off + i * 3 + 1, none⟩ = some (.int .i64 rm) ∧ W.cell? ⟨b, off + i * 3 + 2, none⟩ = some (.slice A1 n1 c1) ∧ W.cell? ⟨b', off' + i * 3, none⟩ = some (.int .i64 ta) ∧ W.cell? ⟨b', off' + i * 3 + 1, none⟩ = some (.int .i64 tm) ∧ W.cell? ⟨b', off' + i * 3 + 2, none⟩ = some (.slice A2 n2 c2)) := Lib.hid (fun W hW => by
        have hp1 := (HKp.out.below hW HKp.out.lt).cell 1
        have hp2 := (HKt.out.below hW HKt.out.lt).cell 1
        have g : ∀ (k o : Nat), k < W1.heap.size → W.cell? ⟨k, o, none⟩ = W1.cell? ⟨k, o, none⟩ := fun k o hk => hW.cell (p := ⟨k, o, none⟩) hk
        have q1 : b < W1.heap.size := hbw
        have q2 : b' < W1.heap.size := hbw'
        exact ⟨hp1, hp2, (g _ _ q1).trans e0, (g _ _ q1).trans e1, (g _ _ q1).trans e2, (g _ _ q2).trans f0, (g _ _ q2).trans f1, (g _ _ q2).trans f2⟩)
      have X0 := HS.out V0 HBV.out
      have X0d := HS.out V0.drew (below_drewC HBV.out 1)
      obtain ⟨bb, hbb⟩ : ∃ x, x = decide (rc = tc) := ⟨_, rfl⟩
      have HC : Hid (∀ W, Below V0.heap.size V0 W → Calls Try.prog 30 #[.slice A1 n1 c1, .slice A2 n2 c2] W fun e w' => e = .returned (.bool bb) ∧ Below W.heap.size W w') := Lib.hid (fun W hW => by
        have hw2 : Below w.heap.size w W := HB1.out.trans ((HBV.out.trans (hW.mono HBV.out.size)).mono HB1.out.size)
        have r1 := (HOk.out.next hw2).c
        have r2 := (HOk2.out.next hw2).c
        rw [hbb]
        exact sameK A1 A2 n1 c1 n2 c2 rc tc W r1.rd r2.rd (by have h9 : n1 * 32 ≤ 140737488351232 := r1.few; omega))
      have HBb := Lib.hid hbb
      have HN : Hid ((ra ≠ ta ∨ rm ≠ tm ∨ rc ≠ tc) → r = false) := Lib.hid (fun h => by
        rw [HEq.out]
        refine decide_eq_false (fun e => ?_)
        have e9 := HG1.out
        rw [e.1, HG2.out] at e9
        injection e9 with e9
        injection e9 with e91 e92 e93
        rcases h with h | h | h
        · exact h e91.symm
        · exact h e92.symm
        · exact h e93.symm)
      have HBi : Hid (i < n) := Lib.hid hlt
      have hid1 : i < n := hlt
      have hnc : i * 3 + 3 ≤ n * 3 := by omega
      clear hc hc' hg hg2 hx1 hx2 e0 e1 e2 f0 f1 f2 hbb hbw hbw' hil hil2
      by_cases h1 : ra = ta
      case neg =>
        have u1 : (ra != ta) = true := by simp [h1]
        have hrf : r = false := HN.out (.inl h1)
        clear h1 X0 X0d
        have z0 := fun k => (HS.out (V0.drewN k) (below_drewC HBV.out k)).1
        have z1 := fun k => (HS.out (V0.drewN k) (below_drewC HBV.out k)).2.1
        have z2 := fun k => (HS.out (V0.drewN k) (below_drewC HBV.out k)).2.2.1
        have z3 := fun k => (HS.out (V0.drewN k) (below_drewC HBV.out k)).2.2.2.1
        have z4 := fun k => (HS.out (V0.drewN k) (below_drewC HBV.out k)).2.2.2.2.1
        have z5 := fun k => (HS.out (V0.drewN k) (below_drewC HBV.out k)).2.2.2.2.2.1
        have z6 := fun k => (HS.out (V0.drewN k) (below_drewC HBV.out k)).2.2.2.2.2.2.1
        have z7 := fun k => (HS.out (V0.drewN k) (below_drewC HBV.out k)).2.2.2.2.2.2.2
        go_wp2_with fail
        go_quiet (fail)
        go_wp2_with fail
        go_ret
        exact ⟨by first | rfl | (rw [hrf]; rfl), below_drewC (HB1.out.trans (HBV.out.mono HB1.out.size)) _⟩
      case pos =>
      have u1 : (ra != ta) = false := by simp [h1]
      by_cases h2 : rm = tm
      case neg =>
        have u2 : (rm != tm) = true := by simp [h2]
        have hrf : r = false := HN.out (.inr (.inl h2))
        clear h1 h2 X0 X0d
        have z0 := fun k => (HS.out (V0.drewN k) (below_drewC HBV.out k)).1
        have z1 := fun k => (HS.out (V0.drewN k) (below_drewC HBV.out k)).2.1
        have z2 := fun k => (HS.out (V0.drewN k) (below_drewC HBV.out k)).2.2.1
        have z3 := fun k => (HS.out (V0.drewN k) (below_drewC HBV.out k)).2.2.2.1
        have z4 := fun k => (HS.out (V0.drewN k) (below_drewC HBV.out k)).2.2.2.2.1
        have z5 := fun k => (HS.out (V0.drewN k) (below_drewC HBV.out k)).2.2.2.2.2.1
        have z6 := fun k => (HS.out (V0.drewN k) (below_drewC HBV.out k)).2.2.2.2.2.2.1
        have z7 := fun k => (HS.out (V0.drewN k) (below_drewC HBV.out k)).2.2.2.2.2.2.2
        go_wp2_with fail
        go_quiet (fail)
        go_wp2_with fail
        go_ret
        exact ⟨by first | rfl | (rw [hrf]; rfl), below_drewC (HB1.out.trans (HBV.out.mono HB1.out.size)) _⟩
      case pos =>
      have u2 : (rm != tm) = false := by simp [h2]
      by_cases h3 : rc = tc
      case neg =>
        have hb3 : bb = false := by rw [HBb.out]; exact decide_eq_false h3
        have hrf : r = false := HN.out (.inr (.inr h3))
        rw [hb3] at HC
        clear h1 h2 h3 hb3
        go_wp2_with fail
        go_region_held3 (fun W => W.cell? ⟨p, 1, none⟩ = some (.slice (some ⟨b, off, none⟩) n c) ∧ W.cell? ⟨pt, 1, none⟩ = some (.slice (some ⟨b', off', none⟩) n d) ∧ W.cell? ⟨b, off + i * 3, none⟩ = some (.int .i64 ra) ∧ W.cell? ⟨b, off + i * 3 + 1, none⟩ = some (.int .i64 rm) ∧ W.cell? ⟨b, off + i * 3 + 2, none⟩ = some (.slice A1 n1 c1) ∧ W.cell? ⟨b', off' + i * 3, none⟩ = some (.int .i64 ta) ∧ W.cell? ⟨b', off' + i * 3 + 1, none⟩ = some (.int .i64 tm) ∧ W.cell? ⟨b', off' + i * 3 + 2, none⟩ = some (.slice A2 n2 c2)) (first | with_reducible exact X0 | with_reducible exact X0d | with_reducible exact X1 | go_keep) (first
          | (go_at_call 30; go_must (refine (HC.out _ (below_drewC (Below.refl _ _) 1)).mono ?_; rintro e w4 ⟨rfl, hb4⟩; have HB4 : Hid (Below V0.heap.size V0 w4) := Lib.hid ((below_drewC (Below.refl _ _) 1).trans hb4); have X1 := HS.out w4 (HBV.out.trans (HB4.out.mono HBV.out.size)); clear hb4)))
        all_goals
          go_wp2_with fail
          go_ret
          exact ⟨by first | rfl | (rw [hrf]; rfl), by first | exact HB1.out.trans ((HBV.out.trans (HB4.out.mono HBV.out.size)).mono HB1.out.size) | exact below_drewC (HB1.out.trans (HBV.out.mono HB1.out.size)) 1 | exact HB1.out.trans (HBV.out.mono HB1.out.size)⟩
      case pos =>
        have hb3 : bb = true := by rw [HBb.out]; exact decide_eq_true h3
        have HEi : Hid ((os.map (·.v))[i]? = (os2.map (·.v))[i]?) := Lib.hid (by rw [HG1.out, HG2.out, h1, h2, h3])
        rw [hb3] at HC
        clear h1 h2 h3 hb3
        go_wp2_with fail
        go_region_held3 (fun W => W.cell? ⟨p, 1, none⟩ = some (.slice (some ⟨b, off, none⟩) n c) ∧ W.cell? ⟨pt, 1, none⟩ = some (.slice (some ⟨b', off', none⟩) n d) ∧ W.cell? ⟨b, off + i * 3, none⟩ = some (.int .i64 ra) ∧ W.cell? ⟨b, off + i * 3 + 1, none⟩ = some (.int .i64 rm) ∧ W.cell? ⟨b, off + i * 3 + 2, none⟩ = some (.slice A1 n1 c1) ∧ W.cell? ⟨b', off' + i * 3, none⟩ = some (.int .i64 ta) ∧ W.cell? ⟨b', off' + i * 3 + 1, none⟩ = some (.int .i64 tm) ∧ W.cell? ⟨b', off' + i * 3 + 2, none⟩ = some (.slice A2 n2 c2)) (first | with_reducible exact X0 | with_reducible exact X0d | with_reducible exact X1 | go_keep) (first
          | (go_at_call 30; go_must (refine (HC.out _ (below_drewC (Below.refl _ _) 1)).mono ?_; rintro e w4 ⟨rfl, hb4⟩; have HB4 : Hid (Below V0.heap.size V0 w4) := Lib.hid ((below_drewC (Below.refl _ _) 1).trans hb4); have X1 := HS.out w4 (HBV.out.trans (HB4.out.mono HBV.out.size)); clear hb4)))
        all_goals
          go_wp2_with fail
          go_roundw
          case rel => exact ⟨i + 1, by go_num, by omega, alikeX_succ HA.out HEi.out, HBV.out.trans (HB4.out.mono HBV.out.size)⟩
          case measure => simp [intOf]; omega
    · have HM1 : Hid (os.map (·.v) = os2.map (·.v)) := Lib.hid (alikeX_all (n := n) ((show i = n by omega) ▸ HA.out) (by simp [L1.out]) (by simp [M1.out]))
      clear HA
      have y1 := (HKp.out.below HBV.out HKp.out.lt).cell 2
      have y2 := (HKt.out.below HBV.out HKt.out.lt).cell 2
      go_wp2_with fail
      go_loopw [111] (fun j wr => ∃ i : Nat, j = .int .i64 i ∧ i ≤ n' ∧ AlikeX (es.map (·.v)) (es2.map (·.v)) i ∧ Below W1.heap.size W1 wr) (fun j _ => n' - (intOf j).toNat)
      case atStart => exact ⟨0, rfl, by omega, (fun j hj => by omega), HBV.out⟩
      case round =>
        obtain ⟨i, rfl, hi, hal, hb⟩ := hrel
        obtain ⟨V0, rfl⟩ : ∃ V : World, V = wr := ⟨_, rfl⟩
        have HA := Lib.hid hal
        have HBV := Lib.hid hb
        clear hal hb
        by_cases hlt : i < n'
        · have hil : i < es.length := by rw [L2.out]; exact hlt
          have hil2 : i < es2.length := by rw [M2.out]; exact hlt
          obtain ⟨b, off, rfl, hbw, hc⟩ := sdR.spots (HI.out.es.next HB1.out).rd (show 0 < n' by omega)
          obtain ⟨b', off', rfl, hbw', hc'⟩ := sdR.spots (HT.out.es.next HB1.out).rd (show 0 < n' by omega)
          have hg := sdA_get hil
          have hg2 := sdA_get hil2
          have HOk := Lib.hid (HI.out.e _ (List.mem_of_getElem? hg))
          have HOk2 := Lib.hid (HT.out.e _ (List.mem_of_getElem? hg2))
          obtain ⟨x1, hx1⟩ : ∃ r, r = sdA es i := ⟨_, rfl⟩
          obtain ⟨x2, hx2⟩ : ∃ r, r = sdA es2 i := ⟨_, rfl⟩
          rw [← hx1] at hg HOk
          rw [← hx2] at hg2 HOk2
          have HG1 : Hid ((es.map (·.v))[i]? = some x1.v) := Lib.hid (by rw [List.getElem?_map, hg]; rfl)
          have HG2 : Hid ((es2.map (·.v))[i]? = some x2.v) := Lib.hid (by rw [List.getElem?_map, hg2]; rfl)
          have e0 := hc i x1 hg 0 _ rfl
          have e1 := hc i x1 hg 1 _ rfl
          have e2 := hc i x1 hg 2 _ rfl
          have e3 := hc i x1 hg 3 _ rfl
          have f0 := hc' i x2 hg2 0 _ rfl
          have f1 := hc' i x2 hg2 1 _ rfl
          have f2 := hc' i x2 hg2 2 _ rfl
          have f3 := hc' i x2 hg2 3 _ rfl
          obtain ⟨⟨ra, rm, rc, rs⟩, ⟨A1, n1, c1⟩⟩ := x1
          obtain ⟨⟨ta, tm, tc, ts⟩, ⟨A2, n2, c2⟩⟩ := x2
          simp only [sdR, Nat.add_zero, Sl.val, ← Nat.add_assoc] at e0 e1 e2 e3 f0 f1 f2 f3
          have HS : Hid (∀ W, Below W1.heap.size W1 W → W.cell? ⟨p, 2, none⟩ = some (.slice (some ⟨b, off, none⟩) n' c') ∧ W.cell? ⟨pt, 2, none⟩ = some (.slice (some ⟨b', off', none⟩) n' d') ∧ W.cell? ⟨b, off + i * 4, none⟩ = some (.int .i64 ra) ∧ W.cell? ⟨b, off + i * 4 + 1, none⟩ = some (.int .i64 rm) ∧ W.cell? ⟨b, off + i * 4 + 2, none⟩ = some (.slice A1 n1 c1) ∧ W.cell? ⟨b, off + i * 4 + 3, none⟩ = some (.int .i64 rs) ∧ W.cell? ⟨b', off' + i * 4, none⟩ = some (.int .i64 ta) ∧ W.cell? ⟨b', off' + i * 4 + 1, none⟩ = some (.int .i64 tm) ∧ W.cell? ⟨b', off' + i * 4 + 2, none⟩ = some (.slice A2 n2 c2) ∧ W.cell? ⟨b', off' + i * 4 + 3, none⟩ = some (.int .i64 ts)) := Lib.hid (fun W hW => by
            have hp1 := (HKp.out.below hW HKp.out.lt).cell 2
            have hp2 := (HKt.out.below hW HKt.out.lt).cell 2
            have g : ∀ (k o : Nat), k < W1.heap.size → W.cell? ⟨k, o, none⟩ = W1.cell? ⟨k, o, none⟩ := fun k o hk => hW.cell (p := ⟨k, o, none⟩) hk
            have q1 : b < W1.heap.size := hbw
            have q2 : b' < W1.heap.size := hbw'
            exact ⟨hp1, hp2, (g _ _ q1).trans e0, (g _ _ q1).trans e1, (g _ _ q1).trans e2, (g _ _ q1).trans e3, (g _ _ q2).trans f0, (g _ _ q2).trans f1, (g _ _ q2).trans f2, (g _ _ q2).trans f3⟩)
          have X0 := HS.out V0 HBV.out
          have X0d := HS.out V0.drew (below_drewC HBV.out 1)
          obtain ⟨bb, hbb⟩ : ∃ x, x = decide ((⟨ra, rm, rc, rs⟩ : Hf) = ⟨ta, tm, tc, ts⟩) := ⟨_, rfl⟩
          have HC : Hid (∀ W, Below V0.heap.size V0 W → Calls Try.prog 31 #[.agg #[.int .i64 ra, .int .i64 rm, .slice A1 n1 c1, .int .i64 rs], .agg #[.int .i64 ta, .int .i64 tm, .slice A2 n2 c2, .int .i64 ts]] W fun e w' => e = .returned (.bool bb) ∧ Below W.heap.size W w') := Lib.hid (fun W hW => by
            have hw2 : Below w.heap.size w W := HB1.out.trans ((HBV.out.trans (hW.mono HBV.out.size)).mono HB1.out.size)
            have r1 := (HOk.out.next hw2).o
            have r2 := (HOk2.out.next hw2).o
            rw [hbb]
            exact sameH ⟨ra, rm, rc, rs⟩ ⟨ta, tm, tc, ts⟩ A1 A2 n1 c1 n2 c2 W r1.rd r2.rd (by have h9 : n1 * 40 ≤ 140737488351232 := r1.few; omega))
          have HBb := Lib.hid hbb
          have HN : Hid ((⟨ra, rm, rc, rs⟩ : Hf) ≠ ⟨ta, tm, tc, ts⟩ → r = false) := Lib.hid (fun h => by
            rw [HEq.out]
            refine decide_eq_false (fun e => ?_)
            have e9 := HG1.out
            rw [e.2.1, HG2.out] at e9
            injection e9 with e9
            exact h e9.symm)
          have hid1 : i < n' := hlt
          clear hc hc' hg hg2 hx1 hx2 e0 e1 e2 e3 f0 f1 f2 f3 hbb hbw hbw' hil hil2
          by_cases h1 : (⟨ra, rm, rc, rs⟩ : Hf) = ⟨ta, tm, tc, ts⟩
          case neg =>
            have hb3 : bb = false := by rw [HBb.out]; exact decide_eq_false h1
            have hrf : r = false := HN.out h1
            rw [hb3] at HC
            clear h1 hb3
            go_wp2_with fail
            go_region_held3 (fun W => W.cell? ⟨p, 2, none⟩ = some (.slice (some ⟨b, off, none⟩) n' c') ∧ W.cell? ⟨pt, 2, none⟩ = some (.slice (some ⟨b', off', none⟩) n' d') ∧ W.cell? ⟨b, off + i * 4, none⟩ = some (.int .i64 ra) ∧ W.cell? ⟨b, off + i * 4 + 1, none⟩ = some (.int .i64 rm) ∧ W.cell? ⟨b, off + i * 4 + 2, none⟩ = some (.slice A1 n1 c1) ∧ W.cell? ⟨b, off + i * 4 + 3, none⟩ = some (.int .i64 rs) ∧ W.cell? ⟨b', off' + i * 4, none⟩ = some (.int .i64 ta) ∧ W.cell? ⟨b', off' + i * 4 + 1, none⟩ = some (.int .i64 tm) ∧ W.cell? ⟨b', off' + i * 4 + 2, none⟩ = some (.slice A2 n2 c2) ∧ W.cell? ⟨b', off' + i * 4 + 3, none⟩ = some (.int .i64 ts)) (first | with_reducible exact X0 | with_reducible exact X0d | with_reducible exact X1 | go_keep) (first
              | (go_at_call 31; go_must (refine (HC.out _ (below_drewC (Below.refl _ _) 1)).mono ?_; rintro e w4 ⟨rfl, hb4⟩; have HB4 : Hid (Below V0.heap.size V0 w4) := Lib.hid ((below_drewC (Below.refl _ _) 1).trans hb4); have X1 := HS.out w4 (HBV.out.trans (HB4.out.mono HBV.out.size)); clear hb4)))
            all_goals
              go_wp2_with fail
              go_ret
              exact ⟨by first | rfl | (rw [hrf]; rfl), by first | exact HB1.out.trans ((HBV.out.trans (HB4.out.mono HBV.out.size)).mono HB1.out.size) | exact below_drewC (HB1.out.trans (HBV.out.mono HB1.out.size)) 1 | exact HB1.out.trans (HBV.out.mono HB1.out.size)⟩
          case pos =>
            have hb3 : bb = true := by rw [HBb.out]; exact decide_eq_true h1
            have HEi : Hid ((es.map (·.v))[i]? = (es2.map (·.v))[i]?) := Lib.hid (by rw [HG1.out, HG2.out, h1])
            rw [hb3] at HC
            clear h1 hb3
            go_wp2_with fail
            go_region_held3 (fun W => W.cell? ⟨p, 2, none⟩ = some (.slice (some ⟨b, off, none⟩) n' c') ∧ W.cell? ⟨pt, 2, none⟩ = some (.slice (some ⟨b', off', none⟩) n' d') ∧ W.cell? ⟨b, off + i * 4, none⟩ = some (.int .i64 ra) ∧ W.cell? ⟨b, off + i * 4 + 1, none⟩ = some (.int .i64 rm) ∧ W.cell? ⟨b, off + i * 4 + 2, none⟩ = some (.slice A1 n1 c1) ∧ W.cell? ⟨b, off + i * 4 + 3, none⟩ = some (.int .i64 rs) ∧ W.cell? ⟨b', off' + i * 4, none⟩ = some (.int .i64 ta) ∧ W.cell? ⟨b', off' + i * 4 + 1, none⟩ = some (.int .i64 tm) ∧ W.cell? ⟨b', off' + i * 4 + 2, none⟩ = some (.slice A2 n2 c2) ∧ W.cell? ⟨b', off' + i * 4 + 3, none⟩ = some (.int .i64 ts)) (first | with_reducible exact X0 | with_reducible exact X0d | with_reducible exact X1 | go_keep) (first
              | (go_at_call 31; go_must (refine (HC.out _ (below_drewC (Below.refl _ _) 1)).mono ?_; rintro e w4 ⟨rfl, hb4⟩; have HB4 : Hid (Below V0.heap.size V0 w4) := Lib.hid ((below_drewC (Below.refl _ _) 1).trans hb4); have X1 := HS.out w4 (HBV.out.trans (HB4.out.mono HBV.out.size)); clear hb4)))
            all_goals
              go_wp2_with fail
              go_roundw
              case rel => exact ⟨i + 1, by go_num, by omega, alikeX_succ HA.out HEi.out, HBV.out.trans (HB4.out.mono HBV.out.size)⟩
              case measure => simp [intOf]; omega
        · have HM2 : Hid (es.map (·.v) = es2.map (·.v)) := Lib.hid (alikeX_all (n := n') ((show i = n' by omega) ▸ HA.out) (by simp [L2.out]) (by simp [M2.out]))
          clear HA
          have y1 := (HKp.out.below HBV.out HKp.out.lt).cell 4
          have y2 := (HKt.out.below HBV.out HKt.out.lt).cell 4
          go_wp2_with fail
          go_loopw [130] (fun j wr => ∃ i : Nat, j = .int .i64 i ∧ i ≤ na ∧ AlikeX as_ as2 i ∧ Below W1.heap.size W1 wr) (fun j _ => na - (intOf j).toNat)
          case atStart => exact ⟨0, rfl, by omega, (fun j hj => by omega), HBV.out⟩
          case round =>
            obtain ⟨i, rfl, hi, hal, hb⟩ := hrel
            obtain ⟨V0, rfl⟩ : ∃ V : World, V = wr := ⟨_, rfl⟩
            have HA := Lib.hid hal
            have HBV := Lib.hid hb
            clear hal hb
            by_cases hlt : i < na
            · have hil : i < as_.length := by rw [L3.out]; exact hlt
              have hil2 : i < as2.length := by rw [M3.out]; exact hlt
              obtain ⟨b, off, rfl, hbw, hc⟩ := akR.spots (HI.out.as_.next HB1.out).rd (show 0 < na by omega)
              obtain ⟨b', off', rfl, hbw', hc'⟩ := akR.spots (HT.out.as_.next HB1.out).rd (show 0 < na by omega)
              have hg : as_[i]? = some (as_.getD i default) := by rw [List.getD_eq_getElem?_getD, List.getElem?_eq_getElem hil]; rfl
              have hg2 : as2[i]? = some (as2.getD i default) := by rw [List.getD_eq_getElem?_getD, List.getElem?_eq_getElem hil2]; rfl
              obtain ⟨u1, hu1⟩ : ∃ r, r = as_.getD i default := ⟨_, rfl⟩
              obtain ⟨u2, hu2⟩ : ∃ r, r = as2.getD i default := ⟨_, rfl⟩
              rw [← hu1] at hg
              rw [← hu2] at hg2
              have HG1 := Lib.hid hg
              have HG2 := Lib.hid hg2
              have e0 := hc i u1 hg 0 _ rfl
              have f0 := hc' i u2 hg2 0 _ rfl
              have e1 := hc i u1 hg 1 _ rfl
              have f1 := hc' i u2 hg2 1 _ rfl
              obtain ⟨x0, x1⟩ := u1
              obtain ⟨y0, y1⟩ := u2
              simp only [akR, Nat.add_zero, ← Nat.add_assoc] at e0 f0 e1 f1
              have HS : Hid (∀ W, Below W1.heap.size W1 W → W.cell? ⟨p, 4, none⟩ = some (.slice (some ⟨b, off, none⟩) na ca) ∧ W.cell? ⟨pt, 4, none⟩ = some (.slice (some ⟨b', off', none⟩) na da) ∧ W.cell? ⟨b, off + i * 2, none⟩ = some (.int .i64 x0) ∧ W.cell? ⟨b, off + i * 2 + 1, none⟩ = some (.int .i64 x1) ∧ W.cell? ⟨b', off' + i * 2, none⟩ = some (.int .i64 y0) ∧ W.cell? ⟨b', off' + i * 2 + 1, none⟩ = some (.int .i64 y1)) := Lib.hid (fun W hW => by
                have hp1 := (HKp.out.below hW HKp.out.lt).cell 4
                have hp2 := (HKt.out.below hW HKt.out.lt).cell 4
                have g : ∀ (k o : Nat), k < W1.heap.size → W.cell? ⟨k, o, none⟩ = W1.cell? ⟨k, o, none⟩ := fun k o hk => hW.cell (p := ⟨k, o, none⟩) hk
                have q1 : b < W1.heap.size := hbw
                have q2 : b' < W1.heap.size := hbw'
                exact ⟨hp1, hp2, (g _ _ q1).trans e0, (g _ _ q1).trans e1, (g _ _ q2).trans f0, (g _ _ q2).trans f1⟩)
              have HN : Hid ((⟨x0, x1⟩ : Ak) ≠ ⟨y0, y1⟩ → r = false) := Lib.hid (fun h => by
                rw [HEq.out]
                refine decide_eq_false (fun e => ?_)
                have e9 := HG1.out
                rw [e.2.2.1, HG2.out] at e9
                injection e9 with e9
                exact h e9.symm)
              have hid1 : i < na := hlt
              clear hc hc' hg hg2 hu1 hu2 e0 f0 e1 f1 hbw hbw' hil hil2
              by_cases h1 : (⟨x0, x1⟩ : Ak) = ⟨y0, y1⟩
              case neg =>
                have hrf : r = false := HN.out h1
                have ke2 : ∀ W : World, (Op.equalIn 10000 59 (.agg #[.int .i64 x0, .int .i64 x1]) (.agg #[.int .i64 y0, .int .i64 y1])).run Try.prog W = .ok false W := fun W => by rw [eq_ak, decide_eq_false h1]
                clear h1
                have z0 := fun k => (HS.out (V0.drewN k) (below_drewC HBV.out k)).1
                have z1 := fun k => (HS.out (V0.drewN k) (below_drewC HBV.out k)).2.1
                have z2 := fun k => (HS.out (V0.drewN k) (below_drewC HBV.out k)).2.2.1
                have z3 := fun k => (HS.out (V0.drewN k) (below_drewC HBV.out k)).2.2.2.1
                have z4 := fun k => (HS.out (V0.drewN k) (below_drewC HBV.out k)).2.2.2.2.1
                have z5 := fun k => (HS.out (V0.drewN k) (below_drewC HBV.out k)).2.2.2.2.2
                go_wp2_with fail
                go_quiet (fail)
                go_wp2_with fail
                go_ret
                exact ⟨by first | rfl | (rw [hrf]; rfl), below_drewC (HB1.out.trans (HBV.out.mono HB1.out.size)) _⟩
              case pos =>
                have HEi : Hid (as_[i]? = as2[i]?) := Lib.hid (by rw [HG1.out, HG2.out, h1])
                have ke2 : ∀ W : World, (Op.equalIn 10000 59 (.agg #[.int .i64 x0, .int .i64 x1]) (.agg #[.int .i64 y0, .int .i64 y1])).run Try.prog W = .ok true W := fun W => by rw [eq_ak, decide_eq_true h1]
                clear h1
                have z0 := fun k => (HS.out (V0.drewN k) (below_drewC HBV.out k)).1
                have z1 := fun k => (HS.out (V0.drewN k) (below_drewC HBV.out k)).2.1
                have z2 := fun k => (HS.out (V0.drewN k) (below_drewC HBV.out k)).2.2.1
                have z3 := fun k => (HS.out (V0.drewN k) (below_drewC HBV.out k)).2.2.2.1
                have z4 := fun k => (HS.out (V0.drewN k) (below_drewC HBV.out k)).2.2.2.2.1
                have z5 := fun k => (HS.out (V0.drewN k) (below_drewC HBV.out k)).2.2.2.2.2
                go_wp2_with fail
                go_quiet (fail)
                go_wp2_with fail
                go_roundw
                case rel => exact ⟨i + 1, by go_num, by omega, alikeX_succ HA.out HEi.out, below_drewC HBV.out _⟩
                case measure => simp [intOf]; omega
            · have HM3 : Hid (as_ = as2) := Lib.hid (alikeX_all (n := na) ((show i = na by omega) ▸ HA.out) (by rw [L3.out]) (by rw [M3.out]))
              clear HA
              have y1 := (HKp.out.below HBV.out HKp.out.lt).cell 5
              have y2 := (HKt.out.below HBV.out HKt.out.lt).cell 5
              go_wp2_with fail
              go_loopw [148] (fun j wr => ∃ i : Nat, j = .int .i64 i ∧ i ≤ ng ∧ AlikeX gs gs2 i ∧ Below W1.heap.size W1 wr) (fun j _ => ng - (intOf j).toNat)
              case atStart => exact ⟨0, rfl, by omega, (fun j hj => by omega), HBV.out⟩
              case round =>
                obtain ⟨i, rfl, hi, hal, hb⟩ := hrel
                obtain ⟨V0, rfl⟩ : ∃ V : World, V = wr := ⟨_, rfl⟩
                have HA := Lib.hid hal
                have HBV := Lib.hid hb
                clear hal hb
                by_cases hlt : i < ng
                · have hil : i < gs.length := by rw [L4.out]; exact hlt
                  have hil2 : i < gs2.length := by rw [M4.out]; exact hlt
                  obtain ⟨b, off, rfl, hbw, hc⟩ := fdR.spots (HI.out.gs.next HB1.out).rd (show 0 < ng by omega)
                  obtain ⟨b', off', rfl, hbw', hc'⟩ := fdR.spots (HT.out.gs.next HB1.out).rd (show 0 < ng by omega)
                  have hg : gs[i]? = some (gs.getD i default) := by rw [List.getD_eq_getElem?_getD, List.getElem?_eq_getElem hil]; rfl
                  have hg2 : gs2[i]? = some (gs2.getD i default) := by rw [List.getD_eq_getElem?_getD, List.getElem?_eq_getElem hil2]; rfl
                  obtain ⟨u1, hu1⟩ : ∃ r, r = gs.getD i default := ⟨_, rfl⟩
                  obtain ⟨u2, hu2⟩ : ∃ r, r = gs2.getD i default := ⟨_, rfl⟩
                  rw [← hu1] at hg
                  rw [← hu2] at hg2
                  have HG1 := Lib.hid hg
                  have HG2 := Lib.hid hg2
                  have e0 := hc i u1 hg 0 _ rfl
                  have f0 := hc' i u2 hg2 0 _ rfl
                  have e1 := hc i u1 hg 1 _ rfl
                  have f1 := hc' i u2 hg2 1 _ rfl
                  have e2 := hc i u1 hg 2 _ rfl
                  have f2 := hc' i u2 hg2 2 _ rfl
                  obtain ⟨x0, x1, x2⟩ := u1
                  obtain ⟨y0, y1, y2⟩ := u2
                  simp only [fdR, Nat.add_zero, ← Nat.add_assoc] at e0 f0 e1 f1 e2 f2
                  have HS : Hid (∀ W, Below W1.heap.size W1 W → W.cell? ⟨p, 5, none⟩ = some (.slice (some ⟨b, off, none⟩) ng cg) ∧ W.cell? ⟨pt, 5, none⟩ = some (.slice (some ⟨b', off', none⟩) ng dg) ∧ W.cell? ⟨b, off + i * 3, none⟩ = some (.int .i64 x0) ∧ W.cell? ⟨b, off + i * 3 + 1, none⟩ = some (.int .i64 x1) ∧ W.cell? ⟨b, off + i * 3 + 2, none⟩ = some (.int .i64 x2) ∧ W.cell? ⟨b', off' + i * 3, none⟩ = some (.int .i64 y0) ∧ W.cell? ⟨b', off' + i * 3 + 1, none⟩ = some (.int .i64 y1) ∧ W.cell? ⟨b', off' + i * 3 + 2, none⟩ = some (.int .i64 y2)) := Lib.hid (fun W hW => by
                    have hp1 := (HKp.out.below hW HKp.out.lt).cell 5
                    have hp2 := (HKt.out.below hW HKt.out.lt).cell 5
                    have g : ∀ (k o : Nat), k < W1.heap.size → W.cell? ⟨k, o, none⟩ = W1.cell? ⟨k, o, none⟩ := fun k o hk => hW.cell (p := ⟨k, o, none⟩) hk
                    have q1 : b < W1.heap.size := hbw
                    have q2 : b' < W1.heap.size := hbw'
                    exact ⟨hp1, hp2, (g _ _ q1).trans e0, (g _ _ q1).trans e1, (g _ _ q1).trans e2, (g _ _ q2).trans f0, (g _ _ q2).trans f1, (g _ _ q2).trans f2⟩)
                  have HN : Hid ((⟨x0, x1, x2⟩ : Fnd) ≠ ⟨y0, y1, y2⟩ → r = false) := Lib.hid (fun h => by
                    rw [HEq.out]
                    refine decide_eq_false (fun e => ?_)
                    have e9 := HG1.out
                    rw [e.2.2.2, HG2.out] at e9
                    injection e9 with e9
                    exact h e9.symm)
                  have hid1 : i < ng := hlt
                  clear hc hc' hg hg2 hu1 hu2 e0 f0 e1 f1 e2 f2 hbw hbw' hil hil2
                  by_cases h1 : (⟨x0, x1, x2⟩ : Fnd) = ⟨y0, y1, y2⟩
                  case neg =>
                    have hrf : r = false := HN.out h1
                    have ke2 : ∀ W : World, (Op.equalIn 10000 61 (.agg #[.int .i64 x0, .int .i64 x1, .int .i64 x2]) (.agg #[.int .i64 y0, .int .i64 y1, .int .i64 y2])).run Try.prog W = .ok false W := fun W => by rw [eq_fd, decide_eq_false h1]
                    clear h1
                    have z0 := fun k => (HS.out (V0.drewN k) (below_drewC HBV.out k)).1
                    have z1 := fun k => (HS.out (V0.drewN k) (below_drewC HBV.out k)).2.1
                    have z2 := fun k => (HS.out (V0.drewN k) (below_drewC HBV.out k)).2.2.1
                    have z3 := fun k => (HS.out (V0.drewN k) (below_drewC HBV.out k)).2.2.2.1
                    have z4 := fun k => (HS.out (V0.drewN k) (below_drewC HBV.out k)).2.2.2.2.1
                    have z5 := fun k => (HS.out (V0.drewN k) (below_drewC HBV.out k)).2.2.2.2.2.1
                    have z6 := fun k => (HS.out (V0.drewN k) (below_drewC HBV.out k)).2.2.2.2.2.2.1
                    have z7 := fun k => (HS.out (V0.drewN k) (below_drewC HBV.out k)).2.2.2.2.2.2.2
                    go_wp2_with fail
                    go_quiet (fail)
                    go_wp2_with fail
                    go_ret
                    exact ⟨by first | rfl | (rw [hrf]; rfl), below_drewC (HB1.out.trans (HBV.out.mono HB1.out.size)) _⟩
                  case pos =>
                    have HEi : Hid (gs[i]? = gs2[i]?) := Lib.hid (by rw [HG1.out, HG2.out, h1])
                    have ke2 : ∀ W : World, (Op.equalIn 10000 61 (.agg #[.int .i64 x0, .int .i64 x1, .int .i64 x2]) (.agg #[.int .i64 y0, .int .i64 y1, .int .i64 y2])).run Try.prog W = .ok true W := fun W => by rw [eq_fd, decide_eq_true h1]
                    clear h1
                    have z0 := fun k => (HS.out (V0.drewN k) (below_drewC HBV.out k)).1
                    have z1 := fun k => (HS.out (V0.drewN k) (below_drewC HBV.out k)).2.1
                    have z2 := fun k => (HS.out (V0.drewN k) (below_drewC HBV.out k)).2.2.1
                    have z3 := fun k => (HS.out (V0.drewN k) (below_drewC HBV.out k)).2.2.2.1
                    have z4 := fun k => (HS.out (V0.drewN k) (below_drewC HBV.out k)).2.2.2.2.1
                    have z5 := fun k => (HS.out (V0.drewN k) (below_drewC HBV.out k)).2.2.2.2.2.1
                    have z6 := fun k => (HS.out (V0.drewN k) (below_drewC HBV.out k)).2.2.2.2.2.2.1
                    have z7 := fun k => (HS.out (V0.drewN k) (below_drewC HBV.out k)).2.2.2.2.2.2.2
                    go_wp2_with fail
                    go_quiet (fail)
                    go_wp2_with fail
                    go_roundw
                    case rel => exact ⟨i + 1, by go_num, by omega, alikeX_succ HA.out HEi.out, below_drewC HBV.out _⟩
                    case measure => simp [intOf]; omega
                · have HM4 : Hid (gs = gs2) := Lib.hid (alikeX_all (n := ng) ((show i = ng by omega) ▸ HA.out) (by rw [L4.out]) (by rw [M4.out]))
                  clear HA
                  have hrt : r = true := by rw [HEq.out]; exact decide_eq_true ⟨HM1.out, HM2.out, HM3.out, HM4.out⟩
                  go_wp2_with fail
                  go_ret
                  exact ⟨by first | rfl | (rw [hrt]; rfl), HB1.out.trans (HBV.out.mono HB1.out.size)⟩
end Go.Proofs.Ytiaafhcfeeekeaa.Pk
