/- The landed Same of package state. -/
import Derived.Test.YtcicpgiljceioaaZStEq
import Derived.Test.YtcicpgiljceioaaZStSpec
import Derived.Deep.RegionHeld3
import Derived.Deep.DeepMust
import Derived.Shelf.Abstract
namespace Go.Proofs.Ytcicpgiljceioaa.Pk
open Go.RowKit
set_option linter.unusedVariables false
attribute [local go_sem] Oper.semAt_some
set_option maxRecDepth 100000 in
set_option maxHeartbeats 4000000 in
theorem sameOwn_any (x y : OwL) (w : World) (hx : x.Ok w) (hy : y.Ok w) :
    Calls Try.prog 45 #[.agg #[.int .i64 x.v.a, .int .i64 x.v.m, x.s.val], .agg #[.int .i64 y.v.a, .int .i64 y.v.m, y.s.val]] w fun e w' => e = .returned (.bool (decide (x.v = y.v))) ∧ Below w.heap.size w w' := by
  obtain ⟨⟨xa, xm, xl⟩, ⟨A, n, c⟩⟩ := x
  obtain ⟨⟨ya, ym, yl⟩, ⟨D, m, d⟩⟩ := y
  obtain ⟨w1, hw1⟩ : ∃ w1, w1 = (w.alloc (.cells #[.int .i64 xa, .int .i64 xm, .slice A n c] 55)).alloc (.cells #[.int .i64 ya, .int .i64 ym, .slice D m d] 55) := ⟨_, rfl⟩
  have hb : Below w.heap.size w w1 := hw1 ▸ (((Below.refl _ w).alloc (Nat.le_refl _) _).alloc (by rw [World.size_alloc]; omega) _)
  have HB := Lib.hid hb
  obtain ⟨q, hq⟩ : ∃ q, q = decide (xl = yl) := ⟨_, rfl⟩
  have HC : Hid (∀ k, Calls Try.prog 64 #[.slice A n c, .slice D m d] (w1.drewN k) fun e w' => e = .returned (.bool q) ∧ Below w.heap.size w w') := Lib.hid (fun k => by
    have hk : Below w.heap.size w (w1.drewN k) := below_drewC hb k
    refine (equal_ceR ⟨A, n, c⟩ ⟨D, m, d⟩ xl yl _ (hx.c.next hk) (hy.c.next hk)).mono ?_
    rintro e w' ⟨rfl, h⟩
    exact ⟨by rw [hq], hk.trans (h.mono hk.size)⟩)
  have HQ := Lib.hid hq
  clear hq hx hy hb
  obtain ⟨r, hr⟩ : ∃ r, r = decide ((⟨xa, xm, xl⟩ : Ow) = ⟨ya, ym, yl⟩) := ⟨_, rfl⟩
  have HR := Lib.hid hr
  show Calls Try.prog 45 #[.agg #[.int .i64 xa, .int .i64 xm, .slice A n c], .agg #[.int .i64 ya, .int .i64 ym, .slice D m d]] w fun e w' => e = .returned (.bool (decide ((⟨xa, xm, xl⟩ : Ow) = ⟨ya, ym, yl⟩))) ∧ Below w.heap.size w w'
  rw [← hr]
  clear hr
  by_cases g0 : xa = ya
  case neg =>
    have t0 : (xa == ya) = false := by simp [g0]
    have hrf : r = false := by rw [HR.out]; exact decide_eq_false (fun e => g0 (by injection e))
    clear HR g0
    go_enter Try.func45, Try.ntmps45
    go_wp2_with fail
    go_ret
    exact ⟨by rw [hrf]; rfl, by rw [← hw1]; exact HB.out⟩
  by_cases g1 : xm = ym
  case neg =>
    have t0 : (xa == ya) = true := by simp [g0]
    have t1 : (xm == ym) = false := by simp [g1]
    have hrf : r = false := by rw [HR.out]; exact decide_eq_false (fun e => g1 (by injection e))
    clear HR g0 g1
    go_enter Try.func45, Try.ntmps45
    go_wp2_with fail
    go_ret
    exact ⟨by rw [hrf]; rfl, by rw [← hw1]; exact HB.out⟩
  have t0 : (xa == ya) = true := by simp [g0]
  have t1 : (xm == ym) = true := by simp [g1]
  have hrq : r = q := by
    rw [HR.out, HQ.out]
    exact decide_eq_decide.2 ⟨fun e => by injection e, fun e => by rw [g0, g1, e]⟩
  clear HR HQ g0 g1
  go_enter Try.func45, Try.ntmps45
  go_wp2_with fail
  rw [← hw1]
  clear hw1
  refine (HC.out 0).mono ?_
  rintro e w2 ⟨rfl, hb2⟩
  have HB2 := Lib.hid hb2
  clear hb2
  go_wp2_with fail
  go_ret
  exact ⟨by rw [hrq]; rfl, HB2.out⟩
set_option maxRecDepth 100000 in
set_option maxHeartbeats 4000000 in
theorem sameEdge_any (x y : SdL) (w : World) (hx : x.Ok w) (hy : y.Ok w) :
    Calls Try.prog 47 #[.agg #[.int .i64 x.v.p, .int .i64 x.v.b, x.s.val, .int .i64 x.v.s], .agg #[.int .i64 y.v.p, .int .i64 y.v.b, y.s.val, .int .i64 y.v.s]] w fun e w' => e = .returned (.bool (decide (x.v = y.v))) ∧ Below w.heap.size w w' := by
  obtain ⟨⟨xp, xb, xl, xs⟩, ⟨A, n, c⟩⟩ := x
  obtain ⟨⟨yp, yb, yl, ys⟩, ⟨D, m, d⟩⟩ := y
  obtain ⟨w1, hw1⟩ : ∃ w1, w1 = (w.alloc (.cells #[.int .i64 xp, .int .i64 xb, .slice A n c, .int .i64 xs] 60)).alloc (.cells #[.int .i64 yp, .int .i64 yb, .slice D m d, .int .i64 ys] 60) := ⟨_, rfl⟩
  have hb : Below w.heap.size w w1 := hw1 ▸ (((Below.refl _ w).alloc (Nat.le_refl _) _).alloc (by rw [World.size_alloc]; omega) _)
  have HB := Lib.hid hb
  obtain ⟨q, hq⟩ : ∃ q, q = decide (xl = yl) := ⟨_, rfl⟩
  have HC : Hid (∀ k, Calls Try.prog 65 #[.slice A n c, .slice D m d] (w1.drewN k) fun e w' => e = .returned (.bool q) ∧ Below w.heap.size w w') := Lib.hid (fun k => by
    have hk : Below w.heap.size w (w1.drewN k) := below_drewC hb k
    refine (equal_mgR ⟨A, n, c⟩ ⟨D, m, d⟩ xl yl _ (hx.o.next hk) (hy.o.next hk)).mono ?_
    rintro e w' ⟨rfl, h⟩
    exact ⟨by rw [hq], hk.trans (h.mono hk.size)⟩)
  have HQ := Lib.hid hq
  clear hq hx hy hb
  obtain ⟨r, hr⟩ : ∃ r, r = decide ((⟨xp, xb, xl, xs⟩ : Hf) = ⟨yp, yb, yl, ys⟩) := ⟨_, rfl⟩
  have HR := Lib.hid hr
  show Calls Try.prog 47 #[.agg #[.int .i64 xp, .int .i64 xb, .slice A n c, .int .i64 xs], .agg #[.int .i64 yp, .int .i64 yb, .slice D m d, .int .i64 ys]] w fun e w' => e = .returned (.bool (decide ((⟨xp, xb, xl, xs⟩ : Hf) = ⟨yp, yb, yl, ys⟩))) ∧ Below w.heap.size w w'
  rw [← hr]
  clear hr
  by_cases g0 : xp = yp
  case neg =>
    have t0 : (xp == yp) = false := by simp [g0]
    have hrf : r = false := by rw [HR.out]; exact decide_eq_false (fun e => g0 (by injection e))
    clear HR g0
    go_enter Try.func47, Try.ntmps47
    go_wp2_with fail
    go_ret
    exact ⟨by rw [hrf]; rfl, by rw [← hw1]; exact HB.out⟩
  by_cases g1 : xb = yb
  case neg =>
    have t0 : (xp == yp) = true := by simp [g0]
    have t1 : (xb == yb) = false := by simp [g1]
    have hrf : r = false := by rw [HR.out]; exact decide_eq_false (fun e => g1 (by injection e))
    clear HR g0 g1
    go_enter Try.func47, Try.ntmps47
    go_wp2_with fail
    go_ret
    exact ⟨by rw [hrf]; rfl, by rw [← hw1]; exact HB.out⟩
  by_cases g2 : xs = ys
  case neg =>
    have t0 : (xp == yp) = true := by simp [g0]
    have t1 : (xb == yb) = true := by simp [g1]
    have t2 : (xs == ys) = false := by simp [g2]
    have hrf : r = false := by rw [HR.out]; exact decide_eq_false (fun e => g2 (by injection e))
    clear HR g0 g1 g2
    go_enter Try.func47, Try.ntmps47
    go_wp2_with fail
    go_ret
    exact ⟨by rw [hrf]; rfl, by rw [← hw1]; exact HB.out⟩
  have t0 : (xp == yp) = true := by simp [g0]
  have t1 : (xb == yb) = true := by simp [g1]
  have t2 : (xs == ys) = true := by simp [g2]
  have hrq : r = q := by
    rw [HR.out, HQ.out]
    exact decide_eq_decide.2 ⟨fun e => by injection e, fun e => by rw [g0, g1, g2, e]⟩
  clear HR HQ g0 g1 g2
  go_enter Try.func47, Try.ntmps47
  go_wp2_with fail
  rw [← hw1]
  clear hw1
  refine (HC.out 0).mono ?_
  rintro e w2 ⟨rfl, hb2⟩
  have HB2 := Lib.hid hb2
  clear hb2
  go_wp2_with fail
  go_ret
  exact ⟨by rw [hrq]; rfl, HB2.out⟩
set_option maxRecDepth 100000 in
set_option maxHeartbeats 4000000 in
theorem eqfunc_owR (s t : Sl) (l r : List OwL) (w : World) (hs : InR owR w s l) (ht : InR owR w t r) (hx : ∀ x ∈ l, x.Ok w) (hy : ∀ x ∈ r, x.Ok w) :
    Calls Try.prog 44 #[s.val, t.val, .func (.func 45) #[] #[]] w fun e w' => e = .returned (.bool (decide (l.map (·.v) = r.map (·.v)))) ∧ Below w.heap.size w w' := by
  obtain ⟨A, n, c⟩ := s
  obtain ⟨D, m, d⟩ := t
  have HI := Lib.hid hs
  have HT := Lib.hid ht
  have HX := Lib.hid hx
  have HY := Lib.hid hy
  have L : Hid (l.length = n) := Lib.hid hs.len
  have M : Hid (r.length = m) := Lib.hid ht.len
  have b1 : n ≤ 17592186044416 := by have h : n * 40 ≤ 140737488351232 := hs.few; omega
  clear hs ht hx hy
  have eg : ∀ args W, (callFunc 45 args).run Try.prog W = .ok (.enter 45 args) W := enters_of Try.func45 (by kernel_rfl) rfl
  obtain ⟨q, hq⟩ : ∃ q, q = decide (l.map (·.v) = r.map (·.v)) := ⟨_, rfl⟩
  rw [← hq]
  have HQ := Lib.hid hq
  clear hq
  show Calls Try.prog 44 #[.slice A n c, .slice D m d, .func (.func 45) #[] #[]] w _
  by_cases g : n = m
  case neg =>
    have t0 : ((n : Int) != (m : Int)) = true := by simp; omega
    have hrf : q = false := by rw [HQ.out]; exact decide_eq_false (fun e => g (by have := congrArg List.length e; simp only [List.length_map] at this; rw [← L.out, ← M.out, this]))
    clear g
    go_enter Try.func44, Try.ntmps44
    go_wp2_with fail
    go_ret
    exact ⟨by rw [hrf]; rfl, Below.refl _ _⟩
  subst g
  have t0 : ((n : Int) != (n : Int)) = false := by simp
  go_enter Try.func44, Try.ntmps44
  go_wp2_with fail
  go_loopw [17] (fun j wr => ∃ i : Nat, j = .int .i64 i ∧ i ≤ n ∧ AlikeX (l.map (·.v)) (r.map (·.v)) i ∧ Below w.heap.size w wr) (fun j _ => n - (intOf j).toNat)
  case atStart => exact ⟨0, rfl, by omega, (fun j hj => by omega), Below.refl _ _⟩
  case round =>
    obtain ⟨i, rfl, hi, hal, hb⟩ := hrel
    obtain ⟨V0, rfl⟩ : ∃ V : World, V = wr := ⟨_, rfl⟩
    have HA := Lib.hid hal
    have HBV := Lib.hid hb
    clear hal hb
    by_cases hlt : i < n
    · have hil : i < l.length := by rw [L.out]; exact hlt
      have hil2 : i < r.length := by rw [M.out]; exact hlt
      obtain ⟨b, off, rfl, hbw, hc⟩ := owR.spots HI.out.rd (show 0 < n by omega)
      obtain ⟨b', off', rfl, hbw', hc'⟩ := owR.spots HT.out.rd (show 0 < n by omega)
      have hg : l[i]? = some (l.getD i default) := by rw [List.getD_eq_getElem?_getD, List.getElem?_eq_getElem hil]; rfl
      have hg2 : r[i]? = some (r.getD i default) := by rw [List.getD_eq_getElem?_getD, List.getElem?_eq_getElem hil2]; rfl
      obtain ⟨u1, hu1⟩ : ∃ r1, r1 = l.getD i default := ⟨_, rfl⟩
      obtain ⟨u2, hu2⟩ : ∃ r2, r2 = r.getD i default := ⟨_, rfl⟩
      rw [← hu1] at hg
      rw [← hu2] at hg2
      have HG1 := Lib.hid hg
      have HG2 := Lib.hid hg2
      have HO1 := Lib.hid (HX.out u1 (List.mem_of_getElem? hg))
      have HO2 := Lib.hid (HY.out u2 (List.mem_of_getElem? hg2))
      have e0 := hc i u1 hg 0 _ rfl
      have f0 := hc' i u2 hg2 0 _ rfl
      have e1 := hc i u1 hg 1 _ rfl
      have f1 := hc' i u2 hg2 1 _ rfl
      have e2 := hc i u1 hg 2 _ rfl
      have f2 := hc' i u2 hg2 2 _ rfl
      obtain ⟨⟨xa, xm, xc⟩, ⟨x1, x2, x3⟩⟩ := u1
      obtain ⟨⟨ya, ym, yc⟩, ⟨y1, y2, y3⟩⟩ := u2
      simp only [owR, Nat.add_zero, ← Nat.add_assoc, Sl.val] at e0 f0 e1 f1 e2 f2
      have e02 : V0.cell? ⟨b, off + i * 3, none⟩ = _ := (HBV.out.cell (p := ⟨b, off + i * 3, none⟩) hbw).trans e0
      have e12 : V0.cell? ⟨b, off + i * 3 + 1, none⟩ = _ := (HBV.out.cell (p := ⟨b, off + i * 3 + 1, none⟩) hbw).trans e1
      have e22 : V0.cell? ⟨b, off + i * 3 + 2, none⟩ = _ := (HBV.out.cell (p := ⟨b, off + i * 3 + 2, none⟩) hbw).trans e2
      obtain ⟨V1, hV1⟩ : ∃ V1, V1 = V0.alloc (.cells #[.int .i64 xa, .int .i64 xm, .slice x1 x2 x3] 55) := ⟨_, rfl⟩
      have hb1 : Below w.heap.size w V1 := hV1 ▸ HBV.out.alloc HBV.out.size _
      have f02 : V1.cell? ⟨b', off' + i * 3, none⟩ = _ := (hb1.cell (p := ⟨b', off' + i * 3, none⟩) hbw').trans f0
      have f12 : V1.cell? ⟨b', off' + i * 3 + 1, none⟩ = _ := (hb1.cell (p := ⟨b', off' + i * 3 + 1, none⟩) hbw').trans f1
      have f22 : V1.cell? ⟨b', off' + i * 3 + 2, none⟩ = _ := (hb1.cell (p := ⟨b', off' + i * 3 + 2, none⟩) hbw').trans f2
      obtain ⟨V2, hV2⟩ : ∃ V2, V2 = V1.alloc (.cells #[.int .i64 ya, .int .i64 ym, .slice y1 y2 y3] 55) := ⟨_, rfl⟩
      have hb2 : Below w.heap.size w V2 := hV2 ▸ hb1.alloc hb1.size _
      have HB2 := Lib.hid hb2
      have HC : Hid (Calls Try.prog 45 #[.agg #[.int .i64 xa, .int .i64 xm, .slice x1 x2 x3], .agg #[.int .i64 ya, .int .i64 ym, .slice y1 y2 y3]] V2 fun e w' => e = .returned (.bool (decide ((⟨xa, xm, xc⟩ : Ow) = ⟨ya, ym, yc⟩))) ∧ Below V2.heap.size V2 w') := Lib.hid (sameOwn_any _ _ V2 (HO1.out.next hb2) (HO2.out.next hb2))
      rw [hV2, hV1] at HC HB2
      rw [hV1] at f02 f12 f22
      have HM1 : Hid ((l.map (·.v))[i]? = some ⟨xa, xm, xc⟩) := Lib.hid (by rw [List.getElem?_map, HG1.out]; rfl)
      have HM2 : Hid ((r.map (·.v))[i]? = some ⟨ya, ym, yc⟩) := Lib.hid (by rw [List.getElem?_map, HG2.out]; rfl)
      have hid1 : i < n := hlt
      clear hc hc' hg hg2 hu1 hu2 e0 f0 e1 f1 e2 f2 hbw hbw' hil hil2 hb1 hb2 hV1 hV2
      by_cases h1 : (⟨xa, xm, xc⟩ : Ow) = ⟨ya, ym, yc⟩
      case neg =>
        rw [decide_eq_false h1] at HC
        have hrf : q = false := by
          rw [HQ.out]
          refine decide_eq_false (fun e => ?_)
          have e9 := HM1.out
          rw [e, HM2.out] at e9
          injection e9 with e9
          exact h1 e9.symm
        clear h1
        go_wp2_with (go_at_fn 45; refine HC.out.mono ?_; rintro e w' ⟨rfl, hb'⟩; have HB3 := Lib.hid (HB2.out.trans (hb'.mono HB2.out.size)); clear hb')
        go_ret
        exact ⟨by first | rfl | (rw [hrf]; rfl), HB3.out⟩
      case pos =>
        rw [decide_eq_true h1] at HC
        have HEi : Hid ((l.map (·.v))[i]? = (r.map (·.v))[i]?) := Lib.hid (by rw [HM1.out, HM2.out, h1])
        clear h1
        go_wp2_with (go_at_fn 45; refine HC.out.mono ?_; rintro e w' ⟨rfl, hb'⟩; have HB3 := Lib.hid (HB2.out.trans (hb'.mono HB2.out.size)); clear hb')
        go_roundw
        case rel => exact ⟨i + 1, by go_num, by omega, alikeX_succ HA.out HEi.out, HB3.out⟩
        case measure => simp [intOf]; omega
    · have hrt : q = true := by
        rw [HQ.out]
        exact decide_eq_true (alikeX_all (n := n) ((show i = n by omega) ▸ HA.out) (by rw [List.length_map]; exact L.out) (by rw [List.length_map]; exact M.out))
      go_wp2_with fail
      go_ret
      exact ⟨by first | rfl | (rw [hrt]; rfl), HBV.out⟩
set_option maxRecDepth 100000 in
set_option maxHeartbeats 4000000 in
theorem eqfunc_sdR (s t : Sl) (l r : List SdL) (w : World) (hs : InR sdR w s l) (ht : InR sdR w t r) (hx : ∀ x ∈ l, x.Ok w) (hy : ∀ x ∈ r, x.Ok w) :
    Calls Try.prog 46 #[s.val, t.val, .func (.func 47) #[] #[]] w fun e w' => e = .returned (.bool (decide (l.map (·.v) = r.map (·.v)))) ∧ Below w.heap.size w w' := by
  obtain ⟨A, n, c⟩ := s
  obtain ⟨D, m, d⟩ := t
  have HI := Lib.hid hs
  have HT := Lib.hid ht
  have HX := Lib.hid hx
  have HY := Lib.hid hy
  have L : Hid (l.length = n) := Lib.hid hs.len
  have M : Hid (r.length = m) := Lib.hid ht.len
  have b1 : n ≤ 17592186044416 := by have h : n * 48 ≤ 140737488351232 := hs.few; omega
  clear hs ht hx hy
  have eg : ∀ args W, (callFunc 47 args).run Try.prog W = .ok (.enter 47 args) W := enters_of Try.func47 (by kernel_rfl) rfl
  obtain ⟨q, hq⟩ : ∃ q, q = decide (l.map (·.v) = r.map (·.v)) := ⟨_, rfl⟩
  rw [← hq]
  have HQ := Lib.hid hq
  clear hq
  show Calls Try.prog 46 #[.slice A n c, .slice D m d, .func (.func 47) #[] #[]] w _
  by_cases g : n = m
  case neg =>
    have t0 : ((n : Int) != (m : Int)) = true := by simp; omega
    have hrf : q = false := by rw [HQ.out]; exact decide_eq_false (fun e => g (by have := congrArg List.length e; simp only [List.length_map] at this; rw [← L.out, ← M.out, this]))
    clear g
    go_enter Try.func46, Try.ntmps46
    go_wp2_with fail
    go_ret
    exact ⟨by rw [hrf]; rfl, Below.refl _ _⟩
  subst g
  have t0 : ((n : Int) != (n : Int)) = false := by simp
  go_enter Try.func46, Try.ntmps46
  go_wp2_with fail
  go_loopw [17] (fun j wr => ∃ i : Nat, j = .int .i64 i ∧ i ≤ n ∧ AlikeX (l.map (·.v)) (r.map (·.v)) i ∧ Below w.heap.size w wr) (fun j _ => n - (intOf j).toNat)
  case atStart => exact ⟨0, rfl, by omega, (fun j hj => by omega), Below.refl _ _⟩
  case round =>
    obtain ⟨i, rfl, hi, hal, hb⟩ := hrel
    obtain ⟨V0, rfl⟩ : ∃ V : World, V = wr := ⟨_, rfl⟩
    have HA := Lib.hid hal
    have HBV := Lib.hid hb
    clear hal hb
    by_cases hlt : i < n
    · have hil : i < l.length := by rw [L.out]; exact hlt
      have hil2 : i < r.length := by rw [M.out]; exact hlt
      obtain ⟨b, off, rfl, hbw, hc⟩ := sdR.spots HI.out.rd (show 0 < n by omega)
      obtain ⟨b', off', rfl, hbw', hc'⟩ := sdR.spots HT.out.rd (show 0 < n by omega)
      have hg : l[i]? = some (l.getD i default) := by rw [List.getD_eq_getElem?_getD, List.getElem?_eq_getElem hil]; rfl
      have hg2 : r[i]? = some (r.getD i default) := by rw [List.getD_eq_getElem?_getD, List.getElem?_eq_getElem hil2]; rfl
      obtain ⟨u1, hu1⟩ : ∃ r1, r1 = l.getD i default := ⟨_, rfl⟩
      obtain ⟨u2, hu2⟩ : ∃ r2, r2 = r.getD i default := ⟨_, rfl⟩
      rw [← hu1] at hg
      rw [← hu2] at hg2
      have HG1 := Lib.hid hg
      have HG2 := Lib.hid hg2
      have HO1 := Lib.hid (HX.out u1 (List.mem_of_getElem? hg))
      have HO2 := Lib.hid (HY.out u2 (List.mem_of_getElem? hg2))
      have e0 := hc i u1 hg 0 _ rfl
      have f0 := hc' i u2 hg2 0 _ rfl
      have e1 := hc i u1 hg 1 _ rfl
      have f1 := hc' i u2 hg2 1 _ rfl
      have e2 := hc i u1 hg 2 _ rfl
      have f2 := hc' i u2 hg2 2 _ rfl
      have e3 := hc i u1 hg 3 _ rfl
      have f3 := hc' i u2 hg2 3 _ rfl
      obtain ⟨⟨xp, xb, xo, xs⟩, ⟨x1, x2, x3⟩⟩ := u1
      obtain ⟨⟨yp, yb, yo, ys⟩, ⟨y1, y2, y3⟩⟩ := u2
      simp only [sdR, Nat.add_zero, ← Nat.add_assoc, Sl.val] at e0 f0 e1 f1 e2 f2 e3 f3
      have e02 : V0.cell? ⟨b, off + i * 4, none⟩ = _ := (HBV.out.cell (p := ⟨b, off + i * 4, none⟩) hbw).trans e0
      have e12 : V0.cell? ⟨b, off + i * 4 + 1, none⟩ = _ := (HBV.out.cell (p := ⟨b, off + i * 4 + 1, none⟩) hbw).trans e1
      have e22 : V0.cell? ⟨b, off + i * 4 + 2, none⟩ = _ := (HBV.out.cell (p := ⟨b, off + i * 4 + 2, none⟩) hbw).trans e2
      have e32 : V0.cell? ⟨b, off + i * 4 + 3, none⟩ = _ := (HBV.out.cell (p := ⟨b, off + i * 4 + 3, none⟩) hbw).trans e3
      obtain ⟨V1, hV1⟩ : ∃ V1, V1 = V0.alloc (.cells #[.int .i64 xp, .int .i64 xb, .slice x1 x2 x3, .int .i64 xs] 60) := ⟨_, rfl⟩
      have hb1 : Below w.heap.size w V1 := hV1 ▸ HBV.out.alloc HBV.out.size _
      have f02 : V1.cell? ⟨b', off' + i * 4, none⟩ = _ := (hb1.cell (p := ⟨b', off' + i * 4, none⟩) hbw').trans f0
      have f12 : V1.cell? ⟨b', off' + i * 4 + 1, none⟩ = _ := (hb1.cell (p := ⟨b', off' + i * 4 + 1, none⟩) hbw').trans f1
      have f22 : V1.cell? ⟨b', off' + i * 4 + 2, none⟩ = _ := (hb1.cell (p := ⟨b', off' + i * 4 + 2, none⟩) hbw').trans f2
      have f32 : V1.cell? ⟨b', off' + i * 4 + 3, none⟩ = _ := (hb1.cell (p := ⟨b', off' + i * 4 + 3, none⟩) hbw').trans f3
      obtain ⟨V2, hV2⟩ : ∃ V2, V2 = V1.alloc (.cells #[.int .i64 yp, .int .i64 yb, .slice y1 y2 y3, .int .i64 ys] 60) := ⟨_, rfl⟩
      have hb2 : Below w.heap.size w V2 := hV2 ▸ hb1.alloc hb1.size _
      have HB2 := Lib.hid hb2
      have HC : Hid (Calls Try.prog 47 #[.agg #[.int .i64 xp, .int .i64 xb, .slice x1 x2 x3, .int .i64 xs], .agg #[.int .i64 yp, .int .i64 yb, .slice y1 y2 y3, .int .i64 ys]] V2 fun e w' => e = .returned (.bool (decide ((⟨xp, xb, xo, xs⟩ : Hf) = ⟨yp, yb, yo, ys⟩))) ∧ Below V2.heap.size V2 w') := Lib.hid (sameEdge_any _ _ V2 (HO1.out.next hb2) (HO2.out.next hb2))
      rw [hV2, hV1] at HC HB2
      rw [hV1] at f02 f12 f22 f32
      have HM1 : Hid ((l.map (·.v))[i]? = some ⟨xp, xb, xo, xs⟩) := Lib.hid (by rw [List.getElem?_map, HG1.out]; rfl)
      have HM2 : Hid ((r.map (·.v))[i]? = some ⟨yp, yb, yo, ys⟩) := Lib.hid (by rw [List.getElem?_map, HG2.out]; rfl)
      have hid1 : i < n := hlt
      clear hc hc' hg hg2 hu1 hu2 e0 f0 e1 f1 e2 f2 e3 f3 hbw hbw' hil hil2 hb1 hb2 hV1 hV2
      by_cases h1 : (⟨xp, xb, xo, xs⟩ : Hf) = ⟨yp, yb, yo, ys⟩
      case neg =>
        rw [decide_eq_false h1] at HC
        have hrf : q = false := by
          rw [HQ.out]
          refine decide_eq_false (fun e => ?_)
          have e9 := HM1.out
          rw [e, HM2.out] at e9
          injection e9 with e9
          exact h1 e9.symm
        clear h1
        go_wp2_with (go_at_fn 47; refine HC.out.mono ?_; rintro e w' ⟨rfl, hb'⟩; have HB3 := Lib.hid (HB2.out.trans (hb'.mono HB2.out.size)); clear hb')
        go_ret
        exact ⟨by first | rfl | (rw [hrf]; rfl), HB3.out⟩
      case pos =>
        rw [decide_eq_true h1] at HC
        have HEi : Hid ((l.map (·.v))[i]? = (r.map (·.v))[i]?) := Lib.hid (by rw [HM1.out, HM2.out, h1])
        clear h1
        go_wp2_with (go_at_fn 47; refine HC.out.mono ?_; rintro e w' ⟨rfl, hb'⟩; have HB3 := Lib.hid (HB2.out.trans (hb'.mono HB2.out.size)); clear hb')
        go_roundw
        case rel => exact ⟨i + 1, by go_num, by omega, alikeX_succ HA.out HEi.out, HB3.out⟩
        case measure => simp [intOf]; omega
    · have hrt : q = true := by
        rw [HQ.out]
        exact decide_eq_true (alikeX_all (n := n) ((show i = n by omega) ▸ HA.out) (by rw [List.length_map]; exact L.out) (by rw [List.length_map]; exact M.out))
      go_wp2_with fail
      go_ret
      exact ⟨by first | rfl | (rw [hrt]; rfl), HBV.out⟩
end Go.Proofs.Ytcicpgiljceioaa.Pk
