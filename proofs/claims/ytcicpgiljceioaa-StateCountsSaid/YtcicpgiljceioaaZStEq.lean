/- The library's slices.Equal, of each kind of row that a state compares. -/
import Derived.Test.YtcicpgiljceioaaZStSame
import Derived.Test.YtcicpgiljceioaaZSameHf
import Derived.Test.YtcicpgiljceioaaZChRefA
namespace Go.Proofs.Ytcicpgiljceioaa.Pk
open Go.RowKit
set_option linter.unusedVariables false
attribute [local go_sem] Oper.semAt_some
set_option maxRecDepth 100000 in
set_option maxHeartbeats 4000000 in
theorem equal_ceR (s t : Sl) (l r : List Ce) (w : World) (hs : InR ceR w s l) (ht : InR ceR w t r) :
    Calls Try.prog 64 #[s.val, t.val] w fun e w' => e = .returned (.bool (decide (l = r))) ∧ Below w.heap.size w w' := by
  obtain ⟨A, n, c⟩ := s
  obtain ⟨D, m, d⟩ := t
  have HI := Lib.hid hs
  have HT := Lib.hid ht
  have L : Hid (l.length = n) := Lib.hid hs.len
  have M : Hid (r.length = m) := Lib.hid ht.len
  have b1 : n ≤ 17592186044416 := by have h : n * 32 ≤ 140737488351232 := hs.few; omega
  clear hs ht
  obtain ⟨q, hq⟩ : ∃ q, q = decide (l = r) := ⟨_, rfl⟩
  rw [← hq]
  have HQ := Lib.hid hq
  clear hq
  show Calls Try.prog 64 #[.slice A n c, .slice D m d] w _
  by_cases g : n = m
  case neg =>
    have t0 : ((n : Int) != (m : Int)) = true := by simp; omega
    have hrf : q = false := by rw [HQ.out]; exact decide_eq_false (fun e => g (by rw [← L.out, ← M.out, e]))
    clear g
    go_enter Try.func64, Try.ntmps64
    go_wp2
    go_ret
    exact ⟨by rw [hrf]; rfl, Below.refl _ _⟩
  subst g
  have t0 : ((n : Int) != (n : Int)) = false := by simp
  go_enter Try.func64, Try.ntmps64
  go_wp2_with fail
  go_loopw [13] (fun j wr => ∃ i : Nat, j = .int .i64 i ∧ i ≤ n ∧ AlikeX l r i ∧ Below w.heap.size w wr) (fun j _ => n - (intOf j).toNat)
  case atStart => exact ⟨0, rfl, by omega, (fun j hj => by omega), Below.refl _ _⟩
  case round =>
    obtain ⟨i, rfl, hi, hal, hb⟩ := hrel
    obtain ⟨V0, rfl⟩ : ∃ V : World, V = wr := ⟨_, rfl⟩
    have HA := Lib.hid hal
    have HBV := Lib.hid hb
    clear hal hb
    by_cases hlt : i < n
    · have hil : i < l.length := by rw [L.out]; exact hlt
      have hil2 : i < r.length := by rw [M.out]; exact hlt
      obtain ⟨b, off, rfl, hbw, hc⟩ := ceR.spots HI.out.rd (show 0 < n by omega)
      obtain ⟨b', off', rfl, hbw', hc'⟩ := ceR.spots HT.out.rd (show 0 < n by omega)
      have hg : l[i]? = some (l.getD i default) := by rw [List.getD_eq_getElem?_getD, List.getElem?_eq_getElem hil]; rfl
      have hg2 : r[i]? = some (r.getD i default) := by rw [List.getD_eq_getElem?_getD, List.getElem?_eq_getElem hil2]; rfl
      obtain ⟨u1, hu1⟩ : ∃ r1, r1 = l.getD i default := ⟨_, rfl⟩
      obtain ⟨u2, hu2⟩ : ∃ r2, r2 = r.getD i default := ⟨_, rfl⟩
      rw [← hu1] at hg
      rw [← hu2] at hg2
      have HG1 := Lib.hid hg
      have HG2 := Lib.hid hg2
      have e0 := hc i u1 hg 0 _ rfl
      have f0 := hc' i u2 hg2 0 _ rfl
      have e1 := hc i u1 hg 1 _ rfl
      have f1 := hc' i u2 hg2 1 _ rfl
      have e2 := hc i u1 hg 2 _ rfl
      have f2 := hc' i u2 hg2 2 _ rfl
      have e3 := hc i u1 hg 3 _ rfl
      have f3 := hc' i u2 hg2 3 _ rfl
      obtain ⟨x0, x1, x2, x3⟩ := u1
      obtain ⟨y0, y1, y2, y3⟩ := u2
      simp only [ceR, Nat.add_zero, ← Nat.add_assoc] at e0 f0 e1 f1 e2 f2 e3 f3
      have HS : Hid (∀ W, Below w.heap.size w W → W.cell? ⟨b, off + i * 4, none⟩ = some (.int .i64 x0) ∧ W.cell? ⟨b, off + i * 4 + 1, none⟩ = some (.int .i64 x1) ∧ W.cell? ⟨b, off + i * 4 + 2, none⟩ = some (.int .i64 x2) ∧ W.cell? ⟨b, off + i * 4 + 3, none⟩ = some (.int .i64 x3) ∧ W.cell? ⟨b', off' + i * 4, none⟩ = some (.int .i64 y0) ∧ W.cell? ⟨b', off' + i * 4 + 1, none⟩ = some (.int .i64 y1) ∧ W.cell? ⟨b', off' + i * 4 + 2, none⟩ = some (.int .i64 y2) ∧ W.cell? ⟨b', off' + i * 4 + 3, none⟩ = some (.int .i64 y3)) := Lib.hid (fun W hW => by
        have g : ∀ (k o : Nat), k < w.heap.size → W.cell? ⟨k, o, none⟩ = w.cell? ⟨k, o, none⟩ := fun k o hk => hW.cell (p := ⟨k, o, none⟩) hk
        have q1 : b < w.heap.size := hbw
        have q2 : b' < w.heap.size := hbw'
        exact ⟨(g _ _ q1).trans e0, (g _ _ q1).trans e1, (g _ _ q1).trans e2, (g _ _ q1).trans e3, (g _ _ q2).trans f0, (g _ _ q2).trans f1, (g _ _ q2).trans f2, (g _ _ q2).trans f3⟩)
      have HN : Hid ((⟨x0, x1, x2, x3⟩ : Ce) ≠ ⟨y0, y1, y2, y3⟩ → q = false) := Lib.hid (fun h => by
        rw [HQ.out]
        refine decide_eq_false (fun e => ?_)
        have e9 := HG1.out
        rw [e, HG2.out] at e9
        injection e9 with e9
        exact h e9.symm)
      have hid1 : i < n := hlt
      clear hc hc' hg hg2 hu1 hu2 e0 f0 e1 f1 e2 f2 e3 f3 hbw hbw' hil hil2
      by_cases h1 : (⟨x0, x1, x2, x3⟩ : Ce) = ⟨y0, y1, y2, y3⟩
      case neg =>
        have hrf : q = false := HN.out h1
        have ke2 : ∀ W : World, (Op.equalIn 10000 57 (.agg #[.int .i64 x0, .int .i64 x1, .int .i64 x2, .int .i64 x3]) (.agg #[.int .i64 y0, .int .i64 y1, .int .i64 y2, .int .i64 y3])).run Try.prog W = .ok false W := fun W => by rw [eq_cell, decide_eq_false h1]
        clear h1
        have z0 := fun k => (HS.out (V0.drewN k) (below_drewC HBV.out k)).1
        have z1 := fun k => (HS.out (V0.drewN k) (below_drewC HBV.out k)).2.1
        have z2 := fun k => (HS.out (V0.drewN k) (below_drewC HBV.out k)).2.2.1
        have z3 := fun k => (HS.out (V0.drewN k) (below_drewC HBV.out k)).2.2.2.1
        have z4 := fun k => (HS.out (V0.drewN k) (below_drewC HBV.out k)).2.2.2.2.1
        have z5 := fun k => (HS.out (V0.drewN k) (below_drewC HBV.out k)).2.2.2.2.2.1
        have z6 := fun k => (HS.out (V0.drewN k) (below_drewC HBV.out k)).2.2.2.2.2.2.1
        have z7 := fun k => (HS.out (V0.drewN k) (below_drewC HBV.out k)).2.2.2.2.2.2.2
        go_wp2_with fail
        go_quiet (fail)
        go_wp2_with fail
        go_ret
        exact ⟨by rw [hrf]; rfl, below_drewC HBV.out _⟩
      case pos =>
        have HEi : Hid (l[i]? = r[i]?) := Lib.hid (by rw [HG1.out, HG2.out, h1])
        have ke2 : ∀ W : World, (Op.equalIn 10000 57 (.agg #[.int .i64 x0, .int .i64 x1, .int .i64 x2, .int .i64 x3]) (.agg #[.int .i64 y0, .int .i64 y1, .int .i64 y2, .int .i64 y3])).run Try.prog W = .ok true W := fun W => by rw [eq_cell, decide_eq_true h1]
        clear h1
        have z0 := fun k => (HS.out (V0.drewN k) (below_drewC HBV.out k)).1
        have z1 := fun k => (HS.out (V0.drewN k) (below_drewC HBV.out k)).2.1
        have z2 := fun k => (HS.out (V0.drewN k) (below_drewC HBV.out k)).2.2.1
        have z3 := fun k => (HS.out (V0.drewN k) (below_drewC HBV.out k)).2.2.2.1
        have z4 := fun k => (HS.out (V0.drewN k) (below_drewC HBV.out k)).2.2.2.2.1
        have z5 := fun k => (HS.out (V0.drewN k) (below_drewC HBV.out k)).2.2.2.2.2.1
        have z6 := fun k => (HS.out (V0.drewN k) (below_drewC HBV.out k)).2.2.2.2.2.2.1
        have z7 := fun k => (HS.out (V0.drewN k) (below_drewC HBV.out k)).2.2.2.2.2.2.2
        go_wp2_with fail
        go_quiet (fail)
        go_wp2_with fail
        go_roundw
        case rel => exact ⟨i + 1, by go_num, by omega, alikeX_succ HA.out HEi.out, below_drewC HBV.out _⟩
        case measure => simp [intOf]; omega
    · have hrt : q = true := by
        rw [HQ.out]
        exact decide_eq_true (alikeX_all (n := n) ((show i = n by omega) ▸ HA.out) L.out M.out)
      go_wp2
      go_ret
      exact ⟨by rw [hrt]; rfl, HBV.out⟩
set_option maxRecDepth 100000 in
set_option maxHeartbeats 4000000 in
theorem equal_mgR (s t : Sl) (l r : List Mg) (w : World) (hs : InR mgR w s l) (ht : InR mgR w t r) :
    Calls Try.prog 65 #[s.val, t.val] w fun e w' => e = .returned (.bool (decide (l = r))) ∧ Below w.heap.size w w' := by
  obtain ⟨A, n, c⟩ := s
  obtain ⟨D, m, d⟩ := t
  have HI := Lib.hid hs
  have HT := Lib.hid ht
  have L : Hid (l.length = n) := Lib.hid hs.len
  have M : Hid (r.length = m) := Lib.hid ht.len
  have b1 : n ≤ 17592186044416 := by have h : n * 40 ≤ 140737488351232 := hs.few; omega
  clear hs ht
  obtain ⟨q, hq⟩ : ∃ q, q = decide (l = r) := ⟨_, rfl⟩
  rw [← hq]
  have HQ := Lib.hid hq
  clear hq
  show Calls Try.prog 65 #[.slice A n c, .slice D m d] w _
  by_cases g : n = m
  case neg =>
    have t0 : ((n : Int) != (m : Int)) = true := by simp; omega
    have hrf : q = false := by rw [HQ.out]; exact decide_eq_false (fun e => g (by rw [← L.out, ← M.out, e]))
    clear g
    go_enter Try.func65, Try.ntmps65
    go_wp2
    go_ret
    exact ⟨by rw [hrf]; rfl, Below.refl _ _⟩
  subst g
  have t0 : ((n : Int) != (n : Int)) = false := by simp
  go_enter Try.func65, Try.ntmps65
  go_wp2_with fail
  go_loopw [13] (fun j wr => ∃ i : Nat, j = .int .i64 i ∧ i ≤ n ∧ AlikeX l r i ∧ Below w.heap.size w wr) (fun j _ => n - (intOf j).toNat)
  case atStart => exact ⟨0, rfl, by omega, (fun j hj => by omega), Below.refl _ _⟩
  case round =>
    obtain ⟨i, rfl, hi, hal, hb⟩ := hrel
    obtain ⟨V0, rfl⟩ : ∃ V : World, V = wr := ⟨_, rfl⟩
    have HA := Lib.hid hal
    have HBV := Lib.hid hb
    clear hal hb
    by_cases hlt : i < n
    · have hil : i < l.length := by rw [L.out]; exact hlt
      have hil2 : i < r.length := by rw [M.out]; exact hlt
      obtain ⟨b, off, rfl, hbw, hc⟩ := mgR.spots HI.out.rd (show 0 < n by omega)
      obtain ⟨b', off', rfl, hbw', hc'⟩ := mgR.spots HT.out.rd (show 0 < n by omega)
      have hg : l[i]? = some (l.getD i default) := by rw [List.getD_eq_getElem?_getD, List.getElem?_eq_getElem hil]; rfl
      have hg2 : r[i]? = some (r.getD i default) := by rw [List.getD_eq_getElem?_getD, List.getElem?_eq_getElem hil2]; rfl
      obtain ⟨u1, hu1⟩ : ∃ r1, r1 = l.getD i default := ⟨_, rfl⟩
      obtain ⟨u2, hu2⟩ : ∃ r2, r2 = r.getD i default := ⟨_, rfl⟩
      rw [← hu1] at hg
      rw [← hu2] at hg2
      have HG1 := Lib.hid hg
      have HG2 := Lib.hid hg2
      have e0 := hc i u1 hg 0 _ rfl
      have f0 := hc' i u2 hg2 0 _ rfl
      have e1 := hc i u1 hg 1 _ rfl
      have f1 := hc' i u2 hg2 1 _ rfl
      have e2 := hc i u1 hg 2 _ rfl
      have f2 := hc' i u2 hg2 2 _ rfl
      have e3 := hc i u1 hg 3 _ rfl
      have f3 := hc' i u2 hg2 3 _ rfl
      have e4 := hc i u1 hg 4 _ rfl
      have f4 := hc' i u2 hg2 4 _ rfl
      obtain ⟨x0, x1, x2, x3, x4⟩ := u1
      obtain ⟨y0, y1, y2, y3, y4⟩ := u2
      simp only [mgR, Nat.add_zero, ← Nat.add_assoc] at e0 f0 e1 f1 e2 f2 e3 f3 e4 f4
      have HS : Hid (∀ W, Below w.heap.size w W → W.cell? ⟨b, off + i * 5, none⟩ = some (.int .i64 x0) ∧ W.cell? ⟨b, off + i * 5 + 1, none⟩ = some (.int .i64 x1) ∧ W.cell? ⟨b, off + i * 5 + 2, none⟩ = some (.int .i64 x2) ∧ W.cell? ⟨b, off + i * 5 + 3, none⟩ = some (.int .i64 x3) ∧ W.cell? ⟨b, off + i * 5 + 4, none⟩ = some (.int .i64 x4) ∧ W.cell? ⟨b', off' + i * 5, none⟩ = some (.int .i64 y0) ∧ W.cell? ⟨b', off' + i * 5 + 1, none⟩ = some (.int .i64 y1) ∧ W.cell? ⟨b', off' + i * 5 + 2, none⟩ = some (.int .i64 y2) ∧ W.cell? ⟨b', off' + i * 5 + 3, none⟩ = some (.int .i64 y3) ∧ W.cell? ⟨b', off' + i * 5 + 4, none⟩ = some (.int .i64 y4)) := Lib.hid (fun W hW => by
        have g : ∀ (k o : Nat), k < w.heap.size → W.cell? ⟨k, o, none⟩ = w.cell? ⟨k, o, none⟩ := fun k o hk => hW.cell (p := ⟨k, o, none⟩) hk
        have q1 : b < w.heap.size := hbw
        have q2 : b' < w.heap.size := hbw'
        exact ⟨(g _ _ q1).trans e0, (g _ _ q1).trans e1, (g _ _ q1).trans e2, (g _ _ q1).trans e3, (g _ _ q1).trans e4, (g _ _ q2).trans f0, (g _ _ q2).trans f1, (g _ _ q2).trans f2, (g _ _ q2).trans f3, (g _ _ q2).trans f4⟩)
      have HN : Hid ((⟨x0, x1, x2, x3, x4⟩ : Mg) ≠ ⟨y0, y1, y2, y3, y4⟩ → q = false) := Lib.hid (fun h => by
        rw [HQ.out]
        refine decide_eq_false (fun e => ?_)
        have e9 := HG1.out
        rw [e, HG2.out] at e9
        injection e9 with e9
        exact h e9.symm)
      have hid1 : i < n := hlt
      clear hc hc' hg hg2 hu1 hu2 e0 f0 e1 f1 e2 f2 e3 f3 e4 f4 hbw hbw' hil hil2
      by_cases h1 : (⟨x0, x1, x2, x3, x4⟩ : Mg) = ⟨y0, y1, y2, y3, y4⟩
      case neg =>
        have hrf : q = false := HN.out h1
        have ke2 : ∀ W : World, (Op.equalIn 10000 45 (.agg #[.int .i64 x0, .int .i64 x1, .int .i64 x2, .int .i64 x3, .int .i64 x4]) (.agg #[.int .i64 y0, .int .i64 y1, .int .i64 y2, .int .i64 y3, .int .i64 y4])).run Try.prog W = .ok false W := fun W => by rw [eq_msg, decide_eq_false h1]
        clear h1
        have z0 := fun k => (HS.out (V0.drewN k) (below_drewC HBV.out k)).1
        have z1 := fun k => (HS.out (V0.drewN k) (below_drewC HBV.out k)).2.1
        have z2 := fun k => (HS.out (V0.drewN k) (below_drewC HBV.out k)).2.2.1
        have z3 := fun k => (HS.out (V0.drewN k) (below_drewC HBV.out k)).2.2.2.1
        have z4 := fun k => (HS.out (V0.drewN k) (below_drewC HBV.out k)).2.2.2.2.1
        have z5 := fun k => (HS.out (V0.drewN k) (below_drewC HBV.out k)).2.2.2.2.2.1
        have z6 := fun k => (HS.out (V0.drewN k) (below_drewC HBV.out k)).2.2.2.2.2.2.1
        have z7 := fun k => (HS.out (V0.drewN k) (below_drewC HBV.out k)).2.2.2.2.2.2.2.1
        have z8 := fun k => (HS.out (V0.drewN k) (below_drewC HBV.out k)).2.2.2.2.2.2.2.2.1
        have z9 := fun k => (HS.out (V0.drewN k) (below_drewC HBV.out k)).2.2.2.2.2.2.2.2.2
        go_wp2_with fail
        go_quiet (fail)
        go_wp2_with fail
        go_ret
        exact ⟨by rw [hrf]; rfl, below_drewC HBV.out _⟩
      case pos =>
        have HEi : Hid (l[i]? = r[i]?) := Lib.hid (by rw [HG1.out, HG2.out, h1])
        have ke2 : ∀ W : World, (Op.equalIn 10000 45 (.agg #[.int .i64 x0, .int .i64 x1, .int .i64 x2, .int .i64 x3, .int .i64 x4]) (.agg #[.int .i64 y0, .int .i64 y1, .int .i64 y2, .int .i64 y3, .int .i64 y4])).run Try.prog W = .ok true W := fun W => by rw [eq_msg, decide_eq_true h1]
        clear h1
        have z0 := fun k => (HS.out (V0.drewN k) (below_drewC HBV.out k)).1
        have z1 := fun k => (HS.out (V0.drewN k) (below_drewC HBV.out k)).2.1
        have z2 := fun k => (HS.out (V0.drewN k) (below_drewC HBV.out k)).2.2.1
        have z3 := fun k => (HS.out (V0.drewN k) (below_drewC HBV.out k)).2.2.2.1
        have z4 := fun k => (HS.out (V0.drewN k) (below_drewC HBV.out k)).2.2.2.2.1
        have z5 := fun k => (HS.out (V0.drewN k) (below_drewC HBV.out k)).2.2.2.2.2.1
        have z6 := fun k => (HS.out (V0.drewN k) (below_drewC HBV.out k)).2.2.2.2.2.2.1
        have z7 := fun k => (HS.out (V0.drewN k) (below_drewC HBV.out k)).2.2.2.2.2.2.2.1
        have z8 := fun k => (HS.out (V0.drewN k) (below_drewC HBV.out k)).2.2.2.2.2.2.2.2.1
        have z9 := fun k => (HS.out (V0.drewN k) (below_drewC HBV.out k)).2.2.2.2.2.2.2.2.2
        go_wp2_with fail
        go_quiet (fail)
        go_wp2_with fail
        go_roundw
        case rel => exact ⟨i + 1, by go_num, by omega, alikeX_succ HA.out HEi.out, below_drewC HBV.out _⟩
        case measure => simp [intOf]; omega
    · have hrt : q = true := by
        rw [HQ.out]
        exact decide_eq_true (alikeX_all (n := n) ((show i = n by omega) ▸ HA.out) L.out M.out)
      go_wp2
      go_ret
      exact ⟨by rw [hrt]; rfl, HBV.out⟩
set_option maxRecDepth 100000 in
set_option maxHeartbeats 4000000 in
theorem equal_akR (s t : Sl) (l r : List Ak) (w : World) (hs : InR akR w s l) (ht : InR akR w t r) :
    Calls Try.prog 48 #[s.val, t.val] w fun e w' => e = .returned (.bool (decide (l = r))) ∧ Below w.heap.size w w' := by
  obtain ⟨A, n, c⟩ := s
  obtain ⟨D, m, d⟩ := t
  have HI := Lib.hid hs
  have HT := Lib.hid ht
  have L : Hid (l.length = n) := Lib.hid hs.len
  have M : Hid (r.length = m) := Lib.hid ht.len
  have b1 : n ≤ 17592186044416 := by have h : n * 16 ≤ 140737488351232 := hs.few; omega
  clear hs ht
  obtain ⟨q, hq⟩ : ∃ q, q = decide (l = r) := ⟨_, rfl⟩
  rw [← hq]
  have HQ := Lib.hid hq
  clear hq
  show Calls Try.prog 48 #[.slice A n c, .slice D m d] w _
  by_cases g : n = m
  case neg =>
    have t0 : ((n : Int) != (m : Int)) = true := by simp; omega
    have hrf : q = false := by rw [HQ.out]; exact decide_eq_false (fun e => g (by rw [← L.out, ← M.out, e]))
    clear g
    go_enter Try.func48, Try.ntmps48
    go_wp2
    go_ret
    exact ⟨by rw [hrf]; rfl, Below.refl _ _⟩
  subst g
  have t0 : ((n : Int) != (n : Int)) = false := by simp
  go_enter Try.func48, Try.ntmps48
  go_wp2_with fail
  go_loopw [13] (fun j wr => ∃ i : Nat, j = .int .i64 i ∧ i ≤ n ∧ AlikeX l r i ∧ Below w.heap.size w wr) (fun j _ => n - (intOf j).toNat)
  case atStart => exact ⟨0, rfl, by omega, (fun j hj => by omega), Below.refl _ _⟩
  case round =>
    obtain ⟨i, rfl, hi, hal, hb⟩ := hrel
    obtain ⟨V0, rfl⟩ : ∃ V : World, V = wr := ⟨_, rfl⟩
    have HA := Lib.hid hal
    have HBV := Lib.hid hb
    clear hal hb
    by_cases hlt : i < n
    · have hil : i < l.length := by rw [L.out]; exact hlt
      have hil2 : i < r.length := by rw [M.out]; exact hlt
      obtain ⟨b, off, rfl, hbw, hc⟩ := akR.spots HI.out.rd (show 0 < n by omega)
      obtain ⟨b', off', rfl, hbw', hc'⟩ := akR.spots HT.out.rd (show 0 < n by omega)
      have hg : l[i]? = some (l.getD i default) := by rw [List.getD_eq_getElem?_getD, List.getElem?_eq_getElem hil]; rfl
      have hg2 : r[i]? = some (r.getD i default) := by rw [List.getD_eq_getElem?_getD, List.getElem?_eq_getElem hil2]; rfl
      obtain ⟨u1, hu1⟩ : ∃ r1, r1 = l.getD i default := ⟨_, rfl⟩
      obtain ⟨u2, hu2⟩ : ∃ r2, r2 = r.getD i default := ⟨_, rfl⟩
      rw [← hu1] at hg
      rw [← hu2] at hg2
      have HG1 := Lib.hid hg
      have HG2 := Lib.hid hg2
      have e0 := hc i u1 hg 0 _ rfl
      have f0 := hc' i u2 hg2 0 _ rfl
      have e1 := hc i u1 hg 1 _ rfl
      have f1 := hc' i u2 hg2 1 _ rfl
      obtain ⟨x0, x1⟩ := u1
      obtain ⟨y0, y1⟩ := u2
      simp only [akR, Nat.add_zero, ← Nat.add_assoc] at e0 f0 e1 f1
      have HS : Hid (∀ W, Below w.heap.size w W → W.cell? ⟨b, off + i * 2, none⟩ = some (.int .i64 x0) ∧ W.cell? ⟨b, off + i * 2 + 1, none⟩ = some (.int .i64 x1) ∧ W.cell? ⟨b', off' + i * 2, none⟩ = some (.int .i64 y0) ∧ W.cell? ⟨b', off' + i * 2 + 1, none⟩ = some (.int .i64 y1)) := Lib.hid (fun W hW => by
        have g : ∀ (k o : Nat), k < w.heap.size → W.cell? ⟨k, o, none⟩ = w.cell? ⟨k, o, none⟩ := fun k o hk => hW.cell (p := ⟨k, o, none⟩) hk
        have q1 : b < w.heap.size := hbw
        have q2 : b' < w.heap.size := hbw'
        exact ⟨(g _ _ q1).trans e0, (g _ _ q1).trans e1, (g _ _ q2).trans f0, (g _ _ q2).trans f1⟩)
      have HN : Hid ((⟨x0, x1⟩ : Ak) ≠ ⟨y0, y1⟩ → q = false) := Lib.hid (fun h => by
        rw [HQ.out]
        refine decide_eq_false (fun e => ?_)
        have e9 := HG1.out
        rw [e, HG2.out] at e9
        injection e9 with e9
        exact h e9.symm)
      have hid1 : i < n := hlt
      clear hc hc' hg hg2 hu1 hu2 e0 f0 e1 f1 hbw hbw' hil hil2
      by_cases h1 : (⟨x0, x1⟩ : Ak) = ⟨y0, y1⟩
      case neg =>
        have hrf : q = false := HN.out h1
        have ke2 : ∀ W : World, (Op.equalIn 10000 64 (.agg #[.int .i64 x0, .int .i64 x1]) (.agg #[.int .i64 y0, .int .i64 y1])).run Try.prog W = .ok false W := fun W => by rw [eq_ak, decide_eq_false h1]
        clear h1
        have z0 := fun k => (HS.out (V0.drewN k) (below_drewC HBV.out k)).1
        have z1 := fun k => (HS.out (V0.drewN k) (below_drewC HBV.out k)).2.1
        have z2 := fun k => (HS.out (V0.drewN k) (below_drewC HBV.out k)).2.2.1
        have z3 := fun k => (HS.out (V0.drewN k) (below_drewC HBV.out k)).2.2.2
        go_wp2_with fail
        go_quiet (fail)
        go_wp2_with fail
        go_ret
        exact ⟨by rw [hrf]; rfl, below_drewC HBV.out _⟩
      case pos =>
        have HEi : Hid (l[i]? = r[i]?) := Lib.hid (by rw [HG1.out, HG2.out, h1])
        have ke2 : ∀ W : World, (Op.equalIn 10000 64 (.agg #[.int .i64 x0, .int .i64 x1]) (.agg #[.int .i64 y0, .int .i64 y1])).run Try.prog W = .ok true W := fun W => by rw [eq_ak, decide_eq_true h1]
        clear h1
        have z0 := fun k => (HS.out (V0.drewN k) (below_drewC HBV.out k)).1
        have z1 := fun k => (HS.out (V0.drewN k) (below_drewC HBV.out k)).2.1
        have z2 := fun k => (HS.out (V0.drewN k) (below_drewC HBV.out k)).2.2.1
        have z3 := fun k => (HS.out (V0.drewN k) (below_drewC HBV.out k)).2.2.2
        go_wp2_with fail
        go_quiet (fail)
        go_wp2_with fail
        go_roundw
        case rel => exact ⟨i + 1, by go_num, by omega, alikeX_succ HA.out HEi.out, below_drewC HBV.out _⟩
        case measure => simp [intOf]; omega
    · have hrt : q = true := by
        rw [HQ.out]
        exact decide_eq_true (alikeX_all (n := n) ((show i = n by omega) ▸ HA.out) L.out M.out)
      go_wp2
      go_ret
      exact ⟨by rw [hrt]; rfl, HBV.out⟩
set_option maxRecDepth 100000 in
set_option maxHeartbeats 4000000 in
theorem equal_fdR (s t : Sl) (l r : List Fnd) (w : World) (hs : InR fdR w s l) (ht : InR fdR w t r) :
    Calls Try.prog 49 #[s.val, t.val] w fun e w' => e = .returned (.bool (decide (l = r))) ∧ Below w.heap.size w w' := by
  obtain ⟨A, n, c⟩ := s
  obtain ⟨D, m, d⟩ := t
  have HI := Lib.hid hs
  have HT := Lib.hid ht
  have L : Hid (l.length = n) := Lib.hid hs.len
  have M : Hid (r.length = m) := Lib.hid ht.len
  have b1 : n ≤ 17592186044416 := by have h : n * 24 ≤ 140737488351232 := hs.few; omega
  clear hs ht
  obtain ⟨q, hq⟩ : ∃ q, q = decide (l = r) := ⟨_, rfl⟩
  rw [← hq]
  have HQ := Lib.hid hq
  clear hq
  show Calls Try.prog 49 #[.slice A n c, .slice D m d] w _
  by_cases g : n = m
  case neg =>
    have t0 : ((n : Int) != (m : Int)) = true := by simp; omega
    have hrf : q = false := by rw [HQ.out]; exact decide_eq_false (fun e => g (by rw [← L.out, ← M.out, e]))
    clear g
    go_enter Try.func49, Try.ntmps49
    go_wp2
    go_ret
    exact ⟨by rw [hrf]; rfl, Below.refl _ _⟩
  subst g
  have t0 : ((n : Int) != (n : Int)) = false := by simp
  go_enter Try.func49, Try.ntmps49
  go_wp2_with fail
  go_loopw [13] (fun j wr => ∃ i : Nat, j = .int .i64 i ∧ i ≤ n ∧ AlikeX l r i ∧ Below w.heap.size w wr) (fun j _ => n - (intOf j).toNat)
  case atStart => exact ⟨0, rfl, by omega, (fun j hj => by omega), Below.refl _ _⟩
  case round =>
    obtain ⟨i, rfl, hi, hal, hb⟩ := hrel
    obtain ⟨V0, rfl⟩ : ∃ V : World, V = wr := ⟨_, rfl⟩
    have HA := Lib.hid hal
    have HBV := Lib.hid hb
    clear hal hb
    by_cases hlt : i < n
    · have hil : i < l.length := by rw [L.out]; exact hlt
      have hil2 : i < r.length := by rw [M.out]; exact hlt
      obtain ⟨b, off, rfl, hbw, hc⟩ := fdR.spots HI.out.rd (show 0 < n by omega)
      obtain ⟨b', off', rfl, hbw', hc'⟩ := fdR.spots HT.out.rd (show 0 < n by omega)
      have hg : l[i]? = some (l.getD i default) := by rw [List.getD_eq_getElem?_getD, List.getElem?_eq_getElem hil]; rfl
      have hg2 : r[i]? = some (r.getD i default) := by rw [List.getD_eq_getElem?_getD, List.getElem?_eq_getElem hil2]; rfl
      obtain ⟨u1, hu1⟩ : ∃ r1, r1 = l.getD i default := ⟨_, rfl⟩
      obtain ⟨u2, hu2⟩ : ∃ r2, r2 = r.getD i default := ⟨_, rfl⟩
      rw [← hu1] at hg
      rw [← hu2] at hg2
      have HG1 := Lib.hid hg
      have HG2 := Lib.hid hg2
      have e0 := hc i u1 hg 0 _ rfl
      have f0 := hc' i u2 hg2 0 _ rfl
      have e1 := hc i u1 hg 1 _ rfl
      have f1 := hc' i u2 hg2 1 _ rfl
      have e2 := hc i u1 hg 2 _ rfl
      have f2 := hc' i u2 hg2 2 _ rfl
      obtain ⟨x0, x1, x2⟩ := u1
      obtain ⟨y0, y1, y2⟩ := u2
      simp only [fdR, Nat.add_zero, ← Nat.add_assoc] at e0 f0 e1 f1 e2 f2
      have HS : Hid (∀ W, Below w.heap.size w W → W.cell? ⟨b, off + i * 3, none⟩ = some (.int .i64 x0) ∧ W.cell? ⟨b, off + i * 3 + 1, none⟩ = some (.int .i64 x1) ∧ W.cell? ⟨b, off + i * 3 + 2, none⟩ = some (.int .i64 x2) ∧ W.cell? ⟨b', off' + i * 3, none⟩ = some (.int .i64 y0) ∧ W.cell? ⟨b', off' + i * 3 + 1, none⟩ = some (.int .i64 y1) ∧ W.cell? ⟨b', off' + i * 3 + 2, none⟩ = some (.int .i64 y2)) := Lib.hid (fun W hW => by
        have g : ∀ (k o : Nat), k < w.heap.size → W.cell? ⟨k, o, none⟩ = w.cell? ⟨k, o, none⟩ := fun k o hk => hW.cell (p := ⟨k, o, none⟩) hk
        have q1 : b < w.heap.size := hbw
        have q2 : b' < w.heap.size := hbw'
        exact ⟨(g _ _ q1).trans e0, (g _ _ q1).trans e1, (g _ _ q1).trans e2, (g _ _ q2).trans f0, (g _ _ q2).trans f1, (g _ _ q2).trans f2⟩)
      have HN : Hid ((⟨x0, x1, x2⟩ : Fnd) ≠ ⟨y0, y1, y2⟩ → q = false) := Lib.hid (fun h => by
        rw [HQ.out]
        refine decide_eq_false (fun e => ?_)
        have e9 := HG1.out
        rw [e, HG2.out] at e9
        injection e9 with e9
        exact h e9.symm)
      have hid1 : i < n := hlt
      clear hc hc' hg hg2 hu1 hu2 e0 f0 e1 f1 e2 f2 hbw hbw' hil hil2
      by_cases h1 : (⟨x0, x1, x2⟩ : Fnd) = ⟨y0, y1, y2⟩
      case neg =>
        have hrf : q = false := HN.out h1
        have ke2 : ∀ W : World, (Op.equalIn 10000 62 (.agg #[.int .i64 x0, .int .i64 x1, .int .i64 x2]) (.agg #[.int .i64 y0, .int .i64 y1, .int .i64 y2])).run Try.prog W = .ok false W := fun W => by rw [eq_fd, decide_eq_false h1]
        clear h1
        have z0 := fun k => (HS.out (V0.drewN k) (below_drewC HBV.out k)).1
        have z1 := fun k => (HS.out (V0.drewN k) (below_drewC HBV.out k)).2.1
        have z2 := fun k => (HS.out (V0.drewN k) (below_drewC HBV.out k)).2.2.1
        have z3 := fun k => (HS.out (V0.drewN k) (below_drewC HBV.out k)).2.2.2.1
        have z4 := fun k => (HS.out (V0.drewN k) (below_drewC HBV.out k)).2.2.2.2.1
        have z5 := fun k => (HS.out (V0.drewN k) (below_drewC HBV.out k)).2.2.2.2.2
        go_wp2_with fail
        go_quiet (fail)
        go_wp2_with fail
        go_ret
        exact ⟨by rw [hrf]; rfl, below_drewC HBV.out _⟩
      case pos =>
        have HEi : Hid (l[i]? = r[i]?) := Lib.hid (by rw [HG1.out, HG2.out, h1])
        have ke2 : ∀ W : World, (Op.equalIn 10000 62 (.agg #[.int .i64 x0, .int .i64 x1, .int .i64 x2]) (.agg #[.int .i64 y0, .int .i64 y1, .int .i64 y2])).run Try.prog W = .ok true W := fun W => by rw [eq_fd, decide_eq_true h1]
        clear h1
        have z0 := fun k => (HS.out (V0.drewN k) (below_drewC HBV.out k)).1
        have z1 := fun k => (HS.out (V0.drewN k) (below_drewC HBV.out k)).2.1
        have z2 := fun k => (HS.out (V0.drewN k) (below_drewC HBV.out k)).2.2.1
        have z3 := fun k => (HS.out (V0.drewN k) (below_drewC HBV.out k)).2.2.2.1
        have z4 := fun k => (HS.out (V0.drewN k) (below_drewC HBV.out k)).2.2.2.2.1
        have z5 := fun k => (HS.out (V0.drewN k) (below_drewC HBV.out k)).2.2.2.2.2
        go_wp2_with fail
        go_quiet (fail)
        go_wp2_with fail
        go_roundw
        case rel => exact ⟨i + 1, by go_num, by omega, alikeX_succ HA.out HEi.out, below_drewC HBV.out _⟩
        case measure => simp [intOf]; omega
    · have hrt : q = true := by
        rw [HQ.out]
        exact decide_eq_true (alikeX_all (n := n) ((show i = n by omega) ▸ HA.out) L.out M.out)
      go_wp2
      go_ret
      exact ⟨by rw [hrt]; rfl, HBV.out⟩
end Go.Proofs.Ytcicpgiljceioaa.Pk
