/- The landed goodOwn and goodObjs of package state. -/
import Derived.Test.YtiaafhcfeeekeaaZChSpecA
import Derived.Test.YtiaafhcfeeekeaaZTrMath
import Derived.Test.YtiaafhcfeeekeaaZChRef4
import Derived.Test.YtiaafhcfeeekeaaZChGood2
import Derived.Test.YtiaafhcfeeekeaaZHfMath
import Derived.Maps.AppendAt
import Derived.OwnWalk
import Derived.Test.YtiaafhcfeeekeaaZStMath
namespace Go.Proofs.Ytiaafhcfeeekeaa.Pk
open Go.RowKit Go.Proofs.Ytiaafhcfeeekeaa.Gr
set_option linter.unusedVariables false
attribute [local go_sem] Oper.semAt_some
theorem ownOk_near {ps : List Int} (G : Gr.Good ps) {me : Int} (h0 : 0 ≤ me) (h1 : me < (ps.length : Int)) {a m : Int} {c : List Ce} : OwnOk ps me ⟨a, m, c⟩ ↔ ((0 ≤ distI ps me a ∧ distI ps me a ≤ 1) ∧ (0 ≤ m ∧ m ≤ 1099511627776) ∧ GoodK c me (decide (a = me)) ∧ ∀ x ∈ c, x.n ≤ m ∧ (x.d = -1 ∨ (0 ≤ x.d ∧ x.d < (ps.length : Int)))) := by
  rw [G.dist_near h0 h1]
  unfold OwnOk
  refine and_congr_right fun _ => and_congr_right fun _ => and_congr_right fun hg => forall_congr' fun x => forall_congr' fun hx => ?_
  obtain ⟨i, hi⟩ := List.getElem?_of_mem hx
  have hil := (List.getElem?_eq_some_iff.1 hi).1
  have hc := hg.2 i hil
  have e : ceA c i = x := by have := ceA_get hil; rw [hi] at this; injection this with this; exact this.symm
  have h4 := hc.2.2.2
  rw [e] at h4
  show (x.n ≤ m ∧ x.d < (ps.length : Int)) ↔ _
  split at h4
  · obtain ⟨k1, k2⟩ := h4; omega
  · obtain ⟨⟨k1, k2, k3, k4⟩, k5⟩ := h4; omega
set_option maxRecDepth 100000 in
set_option maxHeartbeats 8000000 in
theorem goodOwn_any (T g : Nat) (ps : List Int) (me : Int) (x : OwL) (w : World) (htr : IsTr w T g ps) (G : Gr.Good ps) (h0 : 0 ≤ me) (h1 : me < (ps.length : Int)) (hx : x.Ok w) :
    Calls Try.prog 50 #[.pointer (some ⟨T, 0, none⟩), .int .i64 me, .agg #[.int .i64 x.v.a, .int .i64 x.v.m, x.s.val]] w fun e w' => e = .returned (.bool (decide (OwnOk ps me x.v))) ∧ Below w.heap.size w w' := by
  obtain ⟨⟨xa, xm, xl⟩, ⟨A, n, c⟩⟩ := x
  have HT := Lib.hid htr
  have HX := Lib.hid hx
  have HLn : Hid (xl.length = n) := Lib.hid hx.c.len
  have hfew : n * 32 ≤ 140737488351232 := hx.c.few
  have hn32 := G.few
  obtain ⟨r, hr⟩ : ∃ r, r = decide (OwnOk ps me ⟨xa, xm, xl⟩) := ⟨_, rfl⟩
  have HF : Hid (¬ ((0 ≤ distI ps me xa ∧ distI ps me xa ≤ 1) ∧ (0 ≤ xm ∧ xm ≤ 1099511627776) ∧ GoodK xl me (decide (xa = me)) ∧ ∀ x ∈ xl, x.n ≤ xm ∧ (x.d = -1 ∨ (0 ≤ x.d ∧ x.d < (ps.length : Int)))) → r = false) := Lib.hid (fun h => by rw [hr]; exact decide_eq_false (fun k => h ((ownOk_near G h0 h1).1 k)))
  have HTr : Hid (((0 ≤ distI ps me xa ∧ distI ps me xa ≤ 1) ∧ (0 ≤ xm ∧ xm ≤ 1099511627776) ∧ GoodK xl me (decide (xa = me)) ∧ ∀ x ∈ xl, x.n ≤ xm ∧ (x.d = -1 ∨ (0 ≤ x.d ∧ x.d < (ps.length : Int)))) → r = true) := Lib.hid (fun h => by rw [hr]; exact decide_eq_true ((ownOk_near G h0 h1).2 h))
  show Calls Try.prog 50 #[.pointer (some ⟨T, 0, none⟩), .int .i64 me, .agg #[.int .i64 xa, .int .i64 xm, .slice A n c]] w fun e w' => e = .returned (.bool (decide (OwnOk ps me ⟨xa, xm, xl⟩))) ∧ Below w.heap.size w w'
  rw [← hr]
  clear hr htr hx
  obtain ⟨p, hp⟩ : ∃ p, p = w.heap.size := ⟨_, rfl⟩
  obtain ⟨w1, hw1⟩ : ∃ w1, w1 = w.alloc (.cells #[.int .i64 xa, .int .i64 xm, .slice A n c] 55) := ⟨_, rfl⟩
  have hb1 : Below w.heap.size w w1 := hw1 ▸ (Below.refl _ _).alloc (Nat.le_refl _) _
  have hkp : Blk w1 p 55 #[.int .i64 xa, .int .i64 xm, .slice A n c] := by rw [hw1, hp]; exact Blk.new w _ _
  have HB1 := Lib.hid hb1
  have HKp := Lib.hid hkp
  have HD := Lib.hid (dist_any T g ps me xa w1 (HT.out.below_ hb1) G (Nat.le_trans (G.path_le _ _) G.few))
  obtain ⟨dv, hdv⟩ : ∃ dv, dv = distI ps me xa := ⟨_, rfl⟩
  rw [← hdv] at HD HF HTr
  have HJ : Hid (J64 me) := Lib.hid ⟨by omega, by omega⟩
  obtain ⟨sk, hsk⟩ : ∃ sk, sk = decide (xa = me) := ⟨_, rfl⟩
  have hskb : (xa == me) = sk := by rw [hsk]; rfl
  rw [← hsk] at HF HTr
  have HKc : Hid (∀ W, Below w1.heap.size w1 W → Calls Try.prog 70 #[.slice A n c, .int .i64 me, .bool sk] W fun e w' => e = .returned (.bool (decide (GoodK xl me sk))) ∧ Below w1.heap.size w1 w') := Lib.hid (fun W hW => by
    have hW2 : Below w.heap.size w W := HB1.out.trans (hW.mono HB1.out.size)
    refine (goodC A n c xl me sk W ((HX.out.c.next hW2).inK HX.out.i) HJ.out).mono ?_
    rintro e w' ⟨rfl, h⟩
    exact ⟨rfl, hW.trans (h.mono hW.size)⟩)
  have k0 := HKp.out.cell 0
  clear hdv hsk hb1 hkp G h0 h1
  go_enter Try.func50, Try.ntmps50
  go_wp2_with fail
  rw [← hw1, ← hp]
  clear hw1 hp
  refine HD.out.mono ?_
  rintro e w2 ⟨rfl, hb2⟩
  have HB2 := Lib.hid hb2
  have HB02 : Hid (Below w.heap.size w w2) := Lib.hid (HB1.out.trans (hb2.mono HB1.out.size))
  have HK2 := Lib.hid (HKp.out.below hb2 HKp.out.lt)
  clear hb2 k0
  go_wp2_with fail
  have y0 := HK2.out.cell 0
  have y1 := HK2.out.cell 1
  have y2 := HK2.out.cell 2
  by_cases d1 : 0 ≤ dv ∧ dv ≤ 1
  case neg =>
    have hrf : r = false := HF.out (fun h => d1 h.1)
    refine (withinB (x := dv) (a := 0) (b := 1) false w2 (decide_eq_false d1)).mono ?_
    rintro e w3 ⟨rfl, hw⟩
    rw [hw]
    clear hw w3 d1
    go_wp2_with fail
    go_ret
    exact ⟨by first | rfl | (rw [hrf]; rfl), HB02.out⟩
  refine (withinB (x := dv) (a := 0) (b := 1) true w2 (decide_eq_true d1)).mono ?_
  rintro e w3 ⟨rfl, hw⟩
  rw [hw]
  clear hw w3
  have HD1 := Lib.hid d1
  clear d1
  go_wp2_with fail
  by_cases d2 : 0 ≤ xm ∧ xm ≤ 1099511627776
  case neg =>
    have hrf : r = false := HF.out (fun h => d2 h.2.1)
    refine (withinB (x := xm) (a := 0) (b := 1099511627776) false w2 (decide_eq_false d2)).mono ?_
    rintro e w3 ⟨rfl, hw⟩
    rw [hw]
    clear hw w3 d2
    go_wp2_with fail
    go_ret
    exact ⟨by first | rfl | (rw [hrf]; rfl), HB02.out⟩
  refine (withinB (x := xm) (a := 0) (b := 1099511627776) true w2 (decide_eq_true d2)).mono ?_
  rintro e w3 ⟨rfl, hw⟩
  rw [hw]
  clear hw w3
  have HD2 := Lib.hid d2
  clear d2
  go_wp2_with fail
  refine (HKc.out w2 HB2.out).mono ?_
  rintro e w3 ⟨rfl, hb3⟩
  have HB13 := Lib.hid hb3
  have HB03 : Hid (Below w.heap.size w w3) := Lib.hid (HB1.out.trans (hb3.mono HB1.out.size))
  have HK3 := Lib.hid (HKp.out.below hb3 HKp.out.lt)
  clear hb3 y0 y1 y2
  have y2 := HK3.out.cell 2
  by_cases d3 : GoodK xl me sk
  case neg =>
    have hrf : r = false := HF.out (fun h => d3 h.2.2.1)
    rw [decide_eq_false d3]
    clear d3
    go_wp2_with fail
    go_ret
    exact ⟨by first | rfl | (rw [hrf]; rfl), HB03.out⟩
  rw [decide_eq_true d3]
  have HD3 := Lib.hid d3
  clear d3
  go_wp2_with fail
  go_loopw [38] (fun j wr => ∃ i : Nat, j = .int .i64 i ∧ i ≤ n ∧ (∀ x ∈ xl.take i, x.n ≤ xm ∧ (x.d = -1 ∨ (0 ≤ x.d ∧ x.d < (ps.length : Int)))) ∧ Below w3.heap.size w3 wr) (fun j _ => n - (intOf j).toNat)
  case atStart => exact ⟨0, rfl, by omega, (fun x hx => by simp at hx), Below.refl _ _⟩
  case round =>
    obtain ⟨i, rfl, hi, hal, hb⟩ := hrel
    obtain ⟨V0, rfl⟩ : ∃ V : World, V = wr := ⟨_, rfl⟩
    have HA := Lib.hid hal
    have HBV : Hid (Below w.heap.size w V0) := Lib.hid (HB03.out.trans (hb.mono HB03.out.size))
    have HB3V := Lib.hid hb
    have HKV := Lib.hid (HK3.out.below hb HK3.out.lt)
    clear hal hb y2
    by_cases hlt : i < n
    · have hil : i < xl.length := by rw [HLn.out]; exact hlt
      obtain ⟨b, off, rfl, hbw, hc⟩ := ceR.spots (HX.out.c.next HBV.out).rd (show 0 < n by omega)
      have hg : xl[i]? = some (ceA xl i) := ceA_get hil
      obtain ⟨u1, hu1⟩ : ∃ r1, r1 = ceA xl i := ⟨_, rfl⟩
      rw [← hu1] at hg
      have HG1 := Lib.hid hg
      have e0 := hc i u1 hg 0 _ rfl
      have e1 := hc i u1 hg 1 _ rfl
      have e2 := hc i u1 hg 2 _ rfl
      have e3 := hc i u1 hg 3 _ rfl
      have HMem := Lib.hid (List.mem_of_getElem? hg)
      obtain ⟨cn, cs, cd, cx⟩ := u1
      simp only [ceR, Nat.add_zero, ← Nat.add_assoc] at e0 e1 e2 e3
      obtain ⟨V1, hV1⟩ : ∃ V1, V1 = V0.alloc (.cells #[.int .i64 cn, .int .i64 cs, .int .i64 cd, .int .i64 cx] 57) := ⟨_, rfl⟩
      have hbV1 : Below V0.heap.size V0 V1 := hV1 ▸ (Below.refl _ _).alloc (Nat.le_refl _) _
      have HB0V1 : Hid (Below w.heap.size w V1) := Lib.hid (HBV.out.trans (hbV1.mono HBV.out.size))
      have HB3V1 : Hid (Below w3.heap.size w3 V1) := Lib.hid (HB3V.out.trans (hbV1.mono HB3V.out.size))
      have m1 : V1.cell? ⟨p, 1, none⟩ = some (.int .i64 xm) := (HKV.out.below hbV1 HKV.out.lt).cell 1
      rw [hV1] at m1
      have HTV := Lib.hid (HT.out.below_ HB0V1.out)
      have HV1 := Lib.hid hV1
      have HNx : Hid ((cn ≤ xm ∧ (cd = -1 ∨ (0 ≤ cd ∧ cd < (ps.length : Int)))) → ∀ x ∈ xl.take (i + 1), x.n ≤ xm ∧ (x.d = -1 ∨ (0 ≤ x.d ∧ x.d < (ps.length : Int)))) := Lib.hid (fun h x hx => by
        rw [List.take_add_one, HG1.out] at hx
        rcases List.mem_append.1 hx with hx | hx
        · exact HA.out x hx
        · have := List.mem_singleton.1 (by simpa using hx)
          rw [this]; exact h)
      have HNo : Hid (¬ (cn ≤ xm ∧ (cd = -1 ∨ (0 ≤ cd ∧ cd < (ps.length : Int)))) → r = false) := Lib.hid (fun h => HF.out (fun k => h (k.2.2.2 _ HMem.out)))
      have hid1 : i < n := hlt
      have HBo : Hid (Below w.heap.size w (V0.alloc (.cells #[.int .i64 cn, .int .i64 cs, .int .i64 cd, .int .i64 cx] 57))) := Lib.hid (HV1.out ▸ HB0V1.out)
      have HB3o : Hid (Below w3.heap.size w3 (V0.alloc (.cells #[.int .i64 cn, .int .i64 cs, .int .i64 cd, .int .i64 cx] 57))) := Lib.hid (HV1.out ▸ HB3V1.out)
      clear hc hg hu1 hbw hil hbV1 hV1
      by_cases g0 : ¬ cn ≤ xm
      case pos =>
        have hrf : r = false := HNo.out (fun h => g0 h.1)
        have g00 : cn > xm := by omega
        clear g0
        go_wp2_with fail
        go_ret
        exact ⟨by first | rfl | (rw [hrf]; rfl), HBo.out⟩
      have g0p : cn ≤ xm := by omega
      clear g0
      by_cases g1 : cd = -1
      case pos =>
        have HN := Lib.hid (HNx.out ⟨g0p, .inl g1⟩)
        have t1 : (cd != -1) = false := by simp [g1]
        clear g1
        go_wp2_with fail
        go_roundw
        case rel => exact ⟨i + 1, by go_num, by omega, HN.out, HB3o.out⟩
        case measure => simp [intOf]; omega
      have t1 : (cd != -1) = true := by simp [g1]
      by_cases g2 : 0 ≤ cd ∧ cd < (ps.length : Int)
      case neg =>
        have hrf : r = false := HNo.out (fun h => by rcases h.2 with h | h; exact g1 h; exact g2 h)
        have HH := Lib.hid (hasB_ (v := cd) false V1 HTV.out (decide_eq_false g2))
        clear g1 g2
        go_wp2_with fail
        rw [← HV1.out]
        refine HH.out.mono ?_
        rintro e w4 ⟨rfl, hw⟩
        rw [hw]
        clear hw w4
        go_wp2_with fail
        go_ret
        exact ⟨by first | rfl | (rw [hrf]; rfl), HB0V1.out⟩
      have HN := Lib.hid (HNx.out ⟨g0p, .inr g2⟩)
      have HH := Lib.hid (hasB_ (v := cd) true V1 HTV.out (decide_eq_true g2))
      clear g1 g2
      go_wp2_with fail
      rw [← HV1.out]
      refine HH.out.mono ?_
      rintro e w4 ⟨rfl, hw⟩
      rw [hw]
      clear hw w4
      go_wp2_with fail
      go_roundw
      case rel => exact ⟨i + 1, by go_num, by omega, HN.out, HB3V1.out⟩
      case measure => simp [intOf]; omega
    · have hrt : r = true := HTr.out ⟨HD1.out, HD2.out, HD3.out, fun x hx => HA.out x (by rw [List.take_of_length_le (by rw [HLn.out]; omega)]; exact hx)⟩
      go_wp2_with fail
      go_ret
      exact ⟨by first | rfl | (rw [hrt]; rfl), HBV.out⟩
end Go.Proofs.Ytiaafhcfeeekeaa.Pk

/- The landed goodObjs of package state. -/
namespace Go.Proofs.Ytiaafhcfeeekeaa.Pk
open Go.RowKit Go.Proofs.Ytiaafhcfeeekeaa.Gr
set_option linter.unusedVariables false
attribute [local go_sem] Oper.semAt_some
def ObjsOk (ps : List Int) (s : St) : Prop := (1 ≤ s.os.length ∧ s.os.length ≤ 8) ∧ ∀ o ∈ s.os, OwnOk ps s.me o
theorem bool_of (P : Prop) : ∃ t : Bool, (t = true ↔ P) := by
  by_cases h : P
  · exact ⟨true, by simp [h]⟩
  · exact ⟨false, by simp [h]⟩
theorem not_of {t : Bool} {P : Prop} (h : t = true ↔ P) (hp : ¬ P) : t = false := by
  cases t
  · rfl
  · exact absurd (h.1 rfl) hp
set_option maxRecDepth 100000 in
set_option maxHeartbeats 8000000 in
theorem goodObjs_any (T g : Nat) (ps : List Int) (s : StL) (w : World) (htr : IsTr w T g ps) (G : Gr.Good ps) (h0 : 0 ≤ s.me) (h1 : s.me < (ps.length : Int)) (hin : InS w s) :
    Calls Try.prog 26 #[.pointer (some ⟨T, 0, none⟩), s.val] w fun e w' => ∃ t, e = .returned (.bool t) ∧ (t = true ↔ ObjsOk ps s.v) ∧ Below w.heap.size w w' := by
  obtain ⟨t, ht⟩ := bool_of (ObjsOk ps s.v)
  have HTt := Lib.hid ht
  clear ht
  suffices hh : Calls Try.prog 26 #[.pointer (some ⟨T, 0, none⟩), s.val] w fun e w' => e = .returned (.bool t) ∧ Below w.heap.size w w' from hh.mono fun e w' h => ⟨t, h.1, HTt.out, h.2⟩
  have HI := Lib.hid hin
  have HT := Lib.hid htr
  have HG := Lib.hid G
  obtain ⟨me, os, ⟨A, n, c⟩, es, ⟨A', n', c'⟩, q, as_, ⟨Aa, na, ca⟩, gs, ⟨Ag, ng, cg⟩⟩ := s
  have L1 : Hid (os.length = n) := Lib.hid hin.os.len
  have L2 : Hid (es.length = n') := Lib.hid hin.es.len
  have L3 : Hid (as_.length = na) := Lib.hid hin.as_.len
  have L4 : Hid (gs.length = ng) := Lib.hid hin.gs.len
  have b1 : n * 40 ≤ 140737488351232 := hin.os.few
  have b2 : n' * 48 ≤ 140737488351232 := hin.es.few
  have b3 : na * 16 ≤ 140737488351232 := hin.as_.few
  have b4 : ng * 24 ≤ 140737488351232 := hin.gs.few
  have k1 : n ≤ c := hin.os.cap
  have k2 : n' ≤ c' := hin.es.cap
  have k3 : na ≤ ca := hin.as_.cap
  have k4 : ng ≤ cg := hin.gs.cap
  have HMe : Hid (0 ≤ me ∧ me < (ps.length : Int)) := Lib.hid ⟨h0, h1⟩
  have HF : Hid (¬ ((1 ≤ n ∧ n ≤ 8) ∧ ∀ x ∈ os, OwnOk ps me x.v) → t = false) := Lib.hid (fun h => not_of HTt.out (fun k => h ⟨by have := k.1; simp only [StL.v, List.length_map, L1.out] at this; exact this, fun x hx => k.2 x.v (List.mem_map.2 ⟨x, hx, rfl⟩)⟩))
  have HTr : Hid (((1 ≤ n ∧ n ≤ 8) ∧ ∀ x ∈ os, OwnOk ps me x.v) → t = true) := Lib.hid (fun h => HTt.out.2 ⟨by simp only [StL.v, List.length_map, L1.out]; exact h.1, fun o ho => by obtain ⟨x, hx, rfl⟩ := List.mem_map.1 ho; exact h.2 x hx⟩)
  clear hin htr G h0 h1 HTt
  show Calls Try.prog 26 #[.pointer (some ⟨T, 0, none⟩), .agg #[.int .i64 me, .slice A n c, .slice A' n' c', .int .i64 q, .slice Aa na ca, .slice Ag ng cg]] w _
  obtain ⟨p, hp⟩ : ∃ p, p = w.heap.size := ⟨_, rfl⟩
  obtain ⟨W1, hW1⟩ : ∃ W1, W1 = w.alloc (.cells #[.int .i64 me, .slice A n c, .slice A' n' c', .int .i64 q, .slice Aa na ca, .slice Ag ng cg] 28) := ⟨_, rfl⟩
  have HB1 : Hid (Below w.heap.size w W1) := Lib.hid (hW1 ▸ (Below.refl _ _).alloc (Nat.le_refl _) _)
  have HKp : Hid (Blk W1 p 28 #[.int .i64 me, .slice A n c, .slice A' n' c', .int .i64 q, .slice Aa na ca, .slice Ag ng cg]) := Lib.hid (by rw [hW1, hp]; exact Blk.new w _ _)
  have y1 := HKp.out.cell 1
  go_enter Try.func26, Try.ntmps26
  go_wp2_with fail
  rw [← hW1, ← hp]
  clear hW1 hp
  by_cases d1 : 1 ≤ n ∧ n ≤ 8
  case neg =>
    have hrf : t = false := HF.out (fun h => d1 h.1)
    refine (withinB (x := (n : Int)) (a := 1) (b := 8) false W1 (decide_eq_false (by omega))).mono ?_
    rintro e wq ⟨rfl, hw⟩
    rw [hw]
    clear hw wq
    clear d1
    go_wp2_with fail
    go_ret
    exact ⟨by first | rfl | (rw [hrf]; rfl), HB1.out⟩
  refine (withinB (x := (n : Int)) (a := 1) (b := 8) true W1 (decide_eq_true (by omega))).mono ?_
  rintro e wq ⟨rfl, hw⟩
  rw [hw]
  clear hw wq
  have HD1 := Lib.hid d1
  clear d1
  go_wp2_with fail
  go_loopw [15] (fun j wr => ∃ i : Nat, j = .int .i64 i ∧ i ≤ n ∧ (∀ x ∈ os.take i, OwnOk ps me x.v) ∧ Below W1.heap.size W1 wr) (fun j _ => n - (intOf j).toNat)
  case atStart => exact ⟨0, rfl, by omega, (fun x hx => by simp at hx), Below.refl _ _⟩
  case round =>
    obtain ⟨i, rfl, hi, hal, hb⟩ := hrel
    obtain ⟨V0, rfl⟩ : ∃ V : World, V = wr := ⟨_, rfl⟩
    have HA := Lib.hid hal
    have HB := Lib.hid hb
    have HBw : Hid (Below w.heap.size w V0) := Lib.hid (HB1.out.trans (hb.mono HB1.out.size))
    have HKV := Lib.hid (HKp.out.below hb HKp.out.lt)
    clear hal hb y1
    by_cases hlt : i < n
    · have hil : i < os.length := by rw [L1.out]; exact hlt
      obtain ⟨b, off, rfl, hbw, hc⟩ := owR.spots (HI.out.os.next HBw.out).rd (show 0 < n by omega)
      have hg := owA_get hil
      obtain ⟨u1, hu1⟩ : ∃ r1, r1 = owA os i := ⟨_, rfl⟩
      rw [← hu1] at hg
      have HG1 := Lib.hid hg
      have e0 := hc i u1 hg 0 _ rfl
      have e1 := hc i u1 hg 1 _ rfl
      have e2 := hc i u1 hg 2 _ rfl
      have HOk := Lib.hid (HI.out.o _ (List.mem_of_getElem? hg))
      have HMem := Lib.hid (List.mem_of_getElem? hg)
      have HNx : Hid (OwnOk ps me u1.v → ∀ x ∈ os.take (i + 1), OwnOk ps me x.v) := Lib.hid (fun h x hx => by
        rw [List.take_add_one, HG1.out] at hx
        rcases List.mem_append.1 hx with hx | hx
        · exact HA.out x hx
        · have := List.mem_singleton.1 (by simpa using hx)
          rw [this]; exact h)
      have HNo : Hid (¬ OwnOk ps me u1.v → t = false) := Lib.hid (fun h => HF.out (fun k => h (k.2 _ HMem.out)))
      obtain ⟨z, hz⟩ : ∃ z, z = decide (OwnOk ps me u1.v) := ⟨_, rfl⟩
      have HZ := Lib.hid hz
      obtain ⟨V1, hV1⟩ : ∃ V1, V1 = V0.alloc (.cells #[.int .i64 u1.v.a, .int .i64 u1.v.m, u1.s.val] 55) := ⟨_, rfl⟩
      have hbV1 : Below V0.heap.size V0 V1 := hV1 ▸ (Below.refl _ _).alloc (Nat.le_refl _) _
      have HB0V1 : Hid (Below w.heap.size w V1) := Lib.hid (HBw.out.trans (hbV1.mono HBw.out.size))
      have HB1V1 : Hid (Below W1.heap.size W1 V1) := Lib.hid (HB.out.trans (hbV1.mono HB.out.size))
      have HC := Lib.hid (goodOwn_any T g ps me u1 V1 (HT.out.below_ HB0V1.out) HG.out HMe.out.1 HMe.out.2 (HOk.out.next HB0V1.out))
      have m0 : V1.cell? ⟨p, 0, none⟩ = some (.int .i64 me) := (HKV.out.below hbV1 HKV.out.lt).cell 0
      rw [← hz] at HC
      obtain ⟨⟨ra, rm, rc⟩, ⟨A1, n1, c1⟩⟩ := u1
      simp only [owR, Nat.add_zero, Sl.val, ← Nat.add_assoc] at e0 e1 e2 hV1 HC
      rw [hV1] at m0
      have HV1 := Lib.hid hV1
      have hid1 : i < n := hlt
      clear hc hg hu1 hbw hil hbV1 hV1 hz
      go_wp2_with fail
      rw [← HV1.out]
      refine HC.out.mono ?_
      rintro e V2 ⟨rfl, hb2⟩
      have HB2 : Hid (Below w.heap.size w V2) := Lib.hid (HB0V1.out.trans (hb2.mono HB0V1.out.size))
      have HB12 : Hid (Below W1.heap.size W1 V2) := Lib.hid (HB1V1.out.trans (hb2.mono HB1V1.out.size))
      clear hb2 m0
      cases z with
      | false =>
        have hrf : t = false := HNo.out (fun h => by have := HZ.out; rw [decide_eq_true h] at this; cases this)
        go_wp2_with fail
        go_ret
        exact ⟨by first | rfl | (rw [hrf]; rfl), HB2.out⟩
      | true =>
        have HN := Lib.hid (HNx.out (of_decide_eq_true HZ.out.symm))
        go_wp2_with fail
        go_roundw
        case rel => exact ⟨i + 1, by go_num, by omega, HN.out, HB12.out⟩
        case measure => simp [intOf]; omega
    · have hrt : t = true := HTr.out ⟨HD1.out, fun x hx => HA.out x (by rw [List.take_of_length_le (by rw [L1.out]; omega)]; exact hx)⟩
      go_wp2_with fail
      go_ret
      exact ⟨by first | rfl | (rw [hrt]; rfl), HBw.out⟩
end Go.Proofs.Ytiaafhcfeeekeaa.Pk

/- Messages in memory: five cells each. -/
namespace Go.Proofs.Ytiaafhcfeeekeaa.Pk
open Go.RowKit
set_option linter.unusedVariables false
def Mg.cells (m : Mg) : List Value := [.int .i64 m.k, .int .i64 m.o, .int .i64 m.n, .int .i64 m.u, .int .i64 m.v]
def mgs (l : List Mg) : List Value := l.flatMap Mg.cells
theorem mgs_cons (r : Mg) (l : List Mg) : mgs (r :: l) = .int .i64 r.k :: .int .i64 r.o :: .int .i64 r.n :: .int .i64 r.u :: .int .i64 r.v :: mgs l := rfl
@[simp] theorem mgs_length (l : List Mg) : (mgs l).length = l.length * 5 := by
  induction l with
  | nil => rfl
  | cons r l ih => rw [mgs_cons]; simp [ih]; omega
theorem mgs_get {l : List Mg} {k : Nat} {r : Mg} (h : l[k]? = some r) : (mgs l)[k * 5]? = some (.int .i64 r.k) ∧ (mgs l)[k * 5 + 1]? = some (.int .i64 r.o) ∧ (mgs l)[k * 5 + 2]? = some (.int .i64 r.n) ∧ (mgs l)[k * 5 + 3]? = some (.int .i64 r.u) ∧ (mgs l)[k * 5 + 4]? = some (.int .i64 r.v) := by
  induction l generalizing k with
  | nil => simp at h
  | cons x l ih =>
    rw [mgs_cons]
    match k, h with
    | 0, h => simp at h; subst h; exact ⟨rfl, rfl, rfl, rfl, rfl⟩
    | k + 1, h =>
      have := ih (k := k) (by simpa using h)
      rw [show (k + 1) * 5 = k * 5 + 1 + 1 + 1 + 1 + 1 by omega]
      simpa using this
theorem Reads.mgs_ {w : World} {B : Nat} {A : Option Addr} {n : Nat} {l : List Mg} (h : Reads w B 5 A n (mgs l)) (hn : 0 < n) :
    ∃ b off, A = some ⟨b, off, none⟩ ∧ b < B ∧ ∀ i r, l[i]? = some r → w.cell? ⟨b, off + i * 5, none⟩ = some (.int .i64 r.k) ∧ w.cell? ⟨b, off + i * 5 + 1, none⟩ = some (.int .i64 r.o) ∧
      w.cell? ⟨b, off + i * 5 + 2, none⟩ = some (.int .i64 r.n) ∧ w.cell? ⟨b, off + i * 5 + 3, none⟩ = some (.int .i64 r.u) ∧ w.cell? ⟨b, off + i * 5 + 4, none⟩ = some (.int .i64 r.v) := by
  obtain ⟨ad, rfl, hb, hc⟩ := h.2 hn
  have hl : 0 < (mgs l).length := by rw [h.1]; omega
  have h0 := hc 0 _ (List.getElem?_eq_getElem hl)
  obtain ⟨b, off, spot⟩ := ad
  have hs : spot = none := by simpa [Addr.add] using World.cell?_spot h0
  subst hs
  have hat : ∀ j u, (mgs l)[j]? = some u → w.cell? ⟨b, off + j, none⟩ = some u := by
    intro j u hu
    have := hc j u hu
    unfold Addr.add at this
    by_cases hj : j = 0
    · subst hj; simpa using this
    · simpa [hj] using this
  refine ⟨b, off, rfl, hb, fun i r hr => ?_⟩
  obtain ⟨h1, h2, h3, h4, h5⟩ := mgs_get hr
  exact ⟨hat _ _ h1, by rw [Nat.add_assoc]; exact hat _ _ h2, by rw [Nat.add_assoc]; exact hat _ _ h3, by rw [Nat.add_assoc]; exact hat _ _ h4, by rw [Nat.add_assoc]; exact hat _ _ h5⟩
theorem Reads.mlen {w : World} {B : Nat} {A : Option Addr} {n : Nat} {l : List Mg} (h : Reads w B 5 A n (mgs l)) : l.length = n := by
  have := h.1; simp at this; omega
end Go.Proofs.Ytiaafhcfeeekeaa.Pk

/- Messages of the call's own: what a list of them owns, and how it grows. -/
namespace Go.Proofs.Ytiaafhcfeeekeaa.Pk
open Go.RowKit
set_option linter.unusedVariables false
theorem mgs_append (l m : List Mg) : mgs (l ++ m) = mgs l ++ mgs m := List.flatMap_append ..
theorem mgs_one (l : List Mg) : ∀ u ∈ mgs l, u.oneCell' = true := by
  intro u hu
  obtain ⟨r, _, h⟩ := List.mem_flatMap.1 hu
  simp [Mg.cells] at h
  rcases h with rfl | rfl | rfl | rfl | rfl <;> rfl
theorem msg_info : (Try.prog.info? 30).map (fun i => (i.zero, i.size, i.bytes)) = some (some (.agg #[.int .i64 0, .int .i64 0, .int .i64 0, .int .i64 0, .int .i64 0]), 5, 40) := by kernel_rfl
/-- The value owns the messages. -/
def OwnG (w : World) (B : Nat) (v : Value) (l : List Mg) : Prop := w.ownsRow B 30 5 v l.length (mgs l)
theorem OwnG.none_ (w : World) (B : Nat) : OwnG w B (.slice none 0 0) [] := ⟨rfl, .inl ⟨rfl, rfl⟩⟩
theorem OwnG.alloc {w : World} {B : Nat} {v : Value} {l : List Mg} (h : OwnG w B v l) (o : Obj) : OwnG (w.alloc o) B v l := World.ownsRow.alloc h o
theorem ownG_base {w : World} {base : Nat} {v : Value} {l : List Mg} (h : OwnG w base v l) : ∀ k, v.ownBlock = some k → base ≤ k := by
  intro k hk
  rcases h.2 with ⟨rfl, _⟩ | ⟨g, cap, cur, rfl, hb, _⟩
  · simp [Value.ownBlock] at hk
  · simp [Value.ownBlock] at hk; omega
theorem ownG_lt {w : World} {B : Nat} {v : Value} {l : List Mg} (h : OwnG w B v l) : ∀ g, v.ownBlock = some g → g < w.heap.size := by
  intro g hg
  rcases h.2 with ⟨rfl, _⟩ | ⟨g', cap, cur, rfl, _, hh, _⟩
  · simp [Value.ownBlock] at hg
  · simp [Value.ownBlock] at hg
    subst hg
    rcases Nat.lt_or_ge g' w.heap.size with h' | h'
    · exact h'
    · rw [Array.getElem?_eq_none h'] at hh; cases hh
theorem OwnG.stay {w w' : World} {B : Nat} {v : Value} {l : List Mg} (h : OwnG w B v l) (hk : ∀ g, v.ownBlock = some g → w'.heap[g]? = w.heap[g]?) : OwnG w' B v l := by
  obtain ⟨h1, h2⟩ := h
  refine ⟨h1, ?_⟩
  rcases h2 with h2 | ⟨g, cap, cur, rfl, hg, hh, hr⟩
  · exact .inl h2
  · exact .inr ⟨g, cap, cur, rfl, hg, (hk g rfl).trans hh, hr⟩
theorem OwnG.below {w w' : World} {B : Nat} {v : Value} {l : List Mg} (h : OwnG w B v l) (hb : Below w.heap.size w w') : OwnG w' B v l := h.stay fun g e => hb.block g (ownG_lt h g e)
theorem OwnG.reads {w : World} {B : Nat} {v : Value} {l : List Mg} (h : OwnG w B v l) : ∃ A c, v = .slice A l.length c ∧ l.length ≤ c ∧ Reads w w.heap.size 5 A l.length (mgs l) := by
  have h2 := h
  obtain ⟨h1, ⟨rfl, e⟩ | ⟨g, cap, cur, rfl, _, _, hc, _⟩⟩ := h2
  · obtain rfl : l = [] := List.length_eq_zero_iff.1 e
    exact ⟨none, 0, rfl, by simp, Reads.none_⟩
  · exact ⟨_, cap, rfl, hc, Reads.of_own h⟩
theorem ownG_slice {w : World} {B : Nat} {v : Value} {l : List Mg} (h : OwnG w B v l) : ∃ A n c, v = .slice A n c := by
  obtain ⟨A, c, e, _, _⟩ := h.reads
  exact ⟨A, _, c, e⟩
end Go.Proofs.Ytiaafhcfeeekeaa.Pk

/- Sides as they lie; what Good of package half promises. -/
namespace Go.Proofs.Ytiaafhcfeeekeaa.Pk
open Go.RowKit
set_option linter.unusedVariables false
def Hf.val (h : Hf) (v : Value) : Value := .agg #[.int .i64 h.p, .int .i64 h.b, v, .int .i64 h.s]
/-- Ints of 64 bits. -/
structure Hf.I (h : Hf) : Prop where
  p : -9223372036854775808 ≤ h.p ∧ h.p ≤ 9223372036854775807
  b : -9223372036854775808 ≤ h.b ∧ h.b ≤ 9223372036854775807
  s : -9223372036854775808 ≤ h.s ∧ h.s ≤ 9223372036854775807
  o : ∀ m ∈ h.o, m.I
theorem Hf.Be.i {h : Hf} (hb : h.Be) : h.I := by
  obtain ⟨h1, h2, h3, h4, h5, h6, h7, h8⟩ := hb
  exact ⟨by omega, by omega, by omega, fun m hm => (h8 m hm).i⟩
/-- A side as it is handed over: its list is read. -/
structure InH (w : World) (h : Hf) (A : Option Addr) (n c : Nat) : Prop where
  rd : Reads w w.heap.size 5 A n (mgs h.o)
  cap : n ≤ c
  few : n ≤ 3518437208883
  i : h.I
theorem InH.len {w : World} {h : Hf} {A : Option Addr} {n c : Nat} (k : InH w h A n c) : h.o.length = n := k.rd.mlen
theorem InH.next {w w' : World} {h : Hf} {A : Option Addr} {n c : Nat} (k : InH w h A n c) (hb : Below w.heap.size w w') : InH w' h A n c := ⟨(k.rd.below hb).more hb.size, k.cap, k.few, k.i⟩
/-- A side that is answered: its list is its own. -/
def OutH (w' : World) (B : Nat) (h : Hf) (v : Value) : Prop := OwnG w' B v h.o
def GoodH : Prop := ∀ (h : Hf) (A : Option Addr) (n c : Nat) (w : World), InH w h A n c →
  Calls Try.prog 51 #[h.val (.slice A n c)] w fun e w' => e = .returned (.bool (decide h.Be)) ∧ Below w.heap.size w w'
end Go.Proofs.Ytiaafhcfeeekeaa.Pk

/- The document's answers for messages: Valid, Put, Fault, Take. -/
namespace Go.Proofs.Ytiaafhcfeeekeaa.Pk
open Go.RowKit
set_option linter.unusedVariables false
end Go.Proofs.Ytiaafhcfeeekeaa.Pk

/- What package wire promises of Valid. -/
namespace Go.Proofs.Ytiaafhcfeeekeaa.Pk
open Go.RowKit
set_option linter.unusedVariables false
def ValidC : Prop := ∀ (m : Mg) (w : World), m.I → Calls Try.prog 73 #[m.val] w fun e w' => e = .returned (.bool (decide m.Be)) ∧ Below w.heap.size w w'
end Go.Proofs.Ytiaafhcfeeekeaa.Pk

/- The landed Valid: whether a message can be. -/
namespace Go.Proofs.Ytiaafhcfeeekeaa.Pk
open Go.RowKit
set_option linter.unusedVariables false
theorem be_bool {k o n u v : Int} {t b : Bool} (ht : t = decide (Mg.Be ⟨k, o, n, u, v⟩)) (h : b = true ↔ (1 ≤ k ∧ k ≤ 4 ∧ 0 ≤ o ∧ o ≤ 7 ∧ 0 ≤ n ∧ n ≤ 31 ∧ 1 ≤ u ∧ u ≤ 1099511627776 ∧ (k = 4 → 0 ≤ v ∧ v ≤ 31) ∧ (k ≠ 4 → v = 0))) : Ending.returned (Value.bool b) = Ending.returned (Value.bool t) := by
  have e : b = t := by
    rw [ht]
    cases b
    · symm
      refine decide_eq_false (fun hb => ?_)
      exact absurd (h.2 hb) (by simp)
    · symm
      exact decide_eq_true (h.1 rfl)
  rw [e]
set_option maxHeartbeats 4000000 in
theorem validC : ValidC := by
  intro m w hm
  obtain ⟨k, o, n, u, v⟩ := m
  obtain ⟨⟨ik, jk⟩, ⟨io, jo⟩, ⟨in_, jn⟩, ⟨iu, ju⟩, ⟨iv, jv⟩⟩ := hm
  simp only at ik jk io jo in_ jn iu ju iv jv
  obtain ⟨t, ht⟩ : ∃ t, t = decide (Mg.Be ⟨k, o, n, u, v⟩) := ⟨_, rfl⟩
  rw [← ht]
  have HT := Lib.hid ht
  clear ht
  unfold Mg.val
  simp only
  by_cases hk : k = 4
  case pos =>
    have tk : (k == 4) = true := by simpa using hk
    have HK := Lib.hid hk
    clear hk
    go_enter Try.func73, Try.ntmps73
    go_wp2
    all_goals
      go_ret
      exact ⟨be_bool HT.out (by have := HK.out; simp; omega), (Below.refl _ w).alloc (Nat.le_refl _) _⟩
  case neg =>
    have tk : (k == 4) = false := by simpa using hk
    have HK := Lib.hid hk
    clear hk
    go_enter Try.func73, Try.ntmps73
    go_wp2
    all_goals
      go_ret
      exact ⟨be_bool HT.out (by have := HK.out; simp; omega), (Below.refl _ w).alloc (Nat.le_refl _) _⟩
end Go.Proofs.Ytiaafhcfeeekeaa.Pk

/- The landed within and room of package half. -/
namespace Go.Proofs.Ytiaafhcfeeekeaa.Pk
open Go.RowKit
set_option linter.unusedVariables false
theorem run_minI (P : Program) (ts : Array TypeId) (t : TypeId) (a b M : Int) (hM : M = min a b) (w : World) :
    (Builtin.min_ ts t #[.int .i64 a, .int .i64 b]).run P w = .ok (.int .i64 M) w := by
  subst hM
  have e1 : (if b < a then b else a) = min a b := by split <;> omega
  simp only [Builtin.min_, List.foldlM, Builtin.min2, e1, pure_bind]
  rfl
theorem withinH_t {x h : Int} (w : World) (hx : -9223372036854775808 ≤ x ∧ x ≤ 9223372036854775807) (h0 : 0 ≤ x) (h1 : x ≤ h) : Calls Try.prog 71 #[.int .i64 x, .int .i64 h] w fun e w' => e = .returned (.bool true) ∧ w' = w := by
  have b1 : decide (0 ≤ x) = true := decide_eq_true h0
  have b2 : decide (x ≤ h) = true := decide_eq_true h1
  go_enter Try.func71, Try.ntmps71
  go_wp2
  go_ret
  exact ⟨rfl, rfl⟩
theorem withinH_f {x h : Int} (w : World) (hx : -9223372036854775808 ≤ x ∧ x ≤ 9223372036854775807) (hn : x < 0 ∨ h < x) : Calls Try.prog 71 #[.int .i64 x, .int .i64 h] w fun e w' => e = .returned (.bool false) ∧ w' = w := by
  by_cases h0 : 0 ≤ x
  · have b1 : decide (0 ≤ x) = true := decide_eq_true h0
    have b2 : decide (x ≤ h) = false := decide_eq_false (by omega)
    clear hn
    go_enter Try.func71, Try.ntmps71
    go_wp2
    go_ret
    exact ⟨rfl, rfl⟩
  · have b1 : decide (0 ≤ x) = false := decide_eq_false h0
    clear hn
    go_enter Try.func71, Try.ntmps71
    go_wp2
    go_ret
    exact ⟨rfl, rfl⟩
theorem room_any {p b s : Int} (A : Option Addr) (n c : Nat) (w : World) (hb : 0 ≤ b ∧ b ≤ 1099511627776) (hn : n ≤ 3518437208883) (hnc : n ≤ c) :
    Calls Try.prog 72 #[.agg #[.int .i64 p, .int .i64 b, .slice A n c, .int .i64 s]] w fun e w' => e = .returned (.int .i64 (min 1024 (1099511627776 - b) - (n : Int))) ∧ Below w.heap.size w w' := by
  obtain ⟨M, hM⟩ : ∃ M, M = min 1024 (1099511627776 - b) := ⟨_, rfl⟩
  have kn := fun (w : World) => run_minI Try.prog #[3, 3] 3 1024 (1099511627776 - b) M hM w
  have hM2 : 0 ≤ M ∧ M ≤ 1024 := by omega
  rw [← hM]
  clear hM
  go_enter Try.func72, Try.ntmps72
  go_wp2
  go_ret
  exact ⟨rfl, (Below.refl _ w).alloc (Nat.le_refl _) _⟩
end Go.Proofs.Ytiaafhcfeeekeaa.Pk
