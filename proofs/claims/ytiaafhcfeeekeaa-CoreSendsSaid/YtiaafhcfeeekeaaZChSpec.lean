/- The landed goodLocates of package state. -/
import Derived.Test.YtiaafhcfeeekeaaZStGoodEdge
import Derived.Test.YtiaafhcfeeekeaaZChSpecA
namespace Go.Proofs.Ytiaafhcfeeekeaa.Pk
open Go.RowKit Go.Proofs.Ytiaafhcfeeekeaa.Gr
set_option linter.unusedVariables false
attribute [local go_sem] Oper.semAt_some
def LocOk (ps : List Int) (s : St) : Prop := (0 ≤ s.q ∧ s.q ≤ 1099511627776) ∧ s.as_.length ≤ 4 ∧ s.gs.length ≤ 4 ∧ AsksOk (s.os.length : Int) s.q 0 s.as_ ∧ ∀ f ∈ s.gs, GotOk (ps.length : Int) (s.os.length : Int) s.q f
/-- The lowest number that may come next. -/
def lowI (l : List Ak) : Nat → Int
  | 0 => 1
  | i + 1 => (akA l i).n + 1
theorem ask_low {k q : Int} {l : List Ak} {i : Nat} (h : ∀ j, j < i → AskOk k q l j) : AskOk k q l i ↔ (0 ≤ (akA l i).o ∧ (akA l i).o < k) ∧ (lowI l i ≤ (akA l i).n ∧ (akA l i).n ≤ q) := by
  unfold AskOk
  refine and_congr_right fun _ => ?_
  cases i with
  | zero =>
    simp only [lowI]
    exact ⟨fun h1 => h1.1, fun h1 => ⟨h1, fun h2 => absurd h2 (Nat.lt_irrefl 0)⟩⟩
  | succ j =>
    have h2 := (h j (by omega)).2.1.1
    simp only [lowI, Nat.add_sub_cancel]
    constructor
    · rintro ⟨h3, h4⟩
      have := h4 (Nat.succ_pos _)
      omega
    · rintro ⟨h3, h4⟩
      exact ⟨⟨by omega, h4⟩, fun _ => by omega⟩
set_option maxRecDepth 100000 in
set_option maxHeartbeats 16000000 in
theorem goodLoc_any (T g : Nat) (ps : List Int) (s : StL) (w : World) (htr : IsTr w T g ps) (hin : InS w s) :
    Calls Try.prog 28 #[.pointer (some ⟨T, 0, none⟩), s.val] w fun e w' => ∃ t, e = .returned (.bool t) ∧ (t = true ↔ LocOk ps s.v) ∧ Below w.heap.size w w' := by
  obtain ⟨t, ht⟩ := bool_of (LocOk ps s.v)
  have HTt := Lib.hid ht
  clear ht
  suffices hh : Calls Try.prog 28 #[.pointer (some ⟨T, 0, none⟩), s.val] w fun e w' => e = .returned (.bool t) ∧ Below w.heap.size w w' from hh.mono fun e w' h => ⟨t, h.1, HTt.out, h.2⟩
  have HI := Lib.hid hin
  have HT := Lib.hid htr
  obtain ⟨me, os, ⟨A, n, c⟩, es, ⟨A', n', c'⟩, q, as_, ⟨Aa, na, ca⟩, gs, ⟨Ag, ng, cg⟩⟩ := s
  have L1 : Hid (os.length = n) := Lib.hid hin.os.len
  have L2 : Hid (es.length = n') := Lib.hid hin.es.len
  have L3 : Hid (as_.length = na) := Lib.hid hin.as_.len
  have L4 : Hid (gs.length = ng) := Lib.hid hin.gs.len
  have b1 : n * 40 ≤ 140737488351232 := hin.os.few
  have b2 : n' * 48 ≤ 140737488351232 := hin.es.few
  have b3 : na * 16 ≤ 140737488351232 := hin.as_.few
  have b4 : ng * 24 ≤ 140737488351232 := hin.gs.few
  have k1 : n ≤ c := hin.os.cap
  have k2 : n' ≤ c' := hin.es.cap
  have k3 : na ≤ ca := hin.as_.cap
  have k4 : ng ≤ cg := hin.gs.cap
  have HEq : Hid (t = true ↔ (0 ≤ q ∧ q ≤ 1099511627776) ∧ na ≤ 4 ∧ ng ≤ 4 ∧ (∀ i, i < na → AskOk (n : Int) q as_ i) ∧ ∀ f ∈ gs, GotOk (ps.length : Int) (n : Int) q f) := Lib.hid (by
    rw [HTt.out]
    have e1 : (os.map (·.v)).length = n := by rw [List.length_map, L1.out]
    unfold LocOk
    simp only [StL.v, e1, L3.out, L4.out, asks_iff])
  have HF := Lib.hid (fun h => not_of HEq.out h)
  clear hin htr HTt
  show Calls Try.prog 28 #[.pointer (some ⟨T, 0, none⟩), .agg #[.int .i64 me, .slice A n c, .slice A' n' c', .int .i64 q, .slice Aa na ca, .slice Ag ng cg]] w _
  obtain ⟨p, hp⟩ : ∃ p, p = w.heap.size := ⟨_, rfl⟩
  obtain ⟨W1, hW1⟩ : ∃ W1, W1 = w.alloc (.cells #[.int .i64 me, .slice A n c, .slice A' n' c', .int .i64 q, .slice Aa na ca, .slice Ag ng cg] 28) := ⟨_, rfl⟩
  have HB1 : Hid (Below w.heap.size w W1) := Lib.hid (hW1 ▸ (Below.refl _ _).alloc (Nat.le_refl _) _)
  have HKp : Hid (Blk W1 p 28 #[.int .i64 me, .slice A n c, .slice A' n' c', .int .i64 q, .slice Aa na ca, .slice Ag ng cg]) := Lib.hid (by rw [hW1, hp]; exact Blk.new w _ _)
  have y1 := HKp.out.cell 1
  have y3 := HKp.out.cell 3
  have y4 := HKp.out.cell 4
  have y5 := HKp.out.cell 5
  go_enter Try.func28, Try.ntmps28
  go_wp2_with fail
  rw [← hW1, ← hp]
  clear hW1 hp
  by_cases d1 : 0 ≤ q ∧ q ≤ 1099511627776
  case neg =>
    have hrf : t = false := HF.out (fun h => d1 h.1)
    refine (withinB (x := q) (a := 0) (b := 1099511627776) false W1 (decide_eq_false d1)).mono ?_
    rintro e wq ⟨rfl, hw⟩
    rw [hw]
    clear hw wq
    clear d1
    go_wp2_with fail
    go_ret
    exact ⟨by first | rfl | (rw [hrf]; rfl), HB1.out⟩
  refine (withinB (x := q) (a := 0) (b := 1099511627776) true W1 (decide_eq_true d1)).mono ?_
  rintro e wq ⟨rfl, hw⟩
  rw [hw]
  clear hw wq
  have HD1 := Lib.hid d1
  obtain ⟨q0, q1⟩ := d1
  by_cases d2 : na ≤ 4
  case neg =>
    have t2 : decide ((4 : Int) < (na : Int)) = true := by simp; omega
    have hrf : t = false := HF.out (fun h => d2 h.2.1)
    clear d2
    go_wp2_with fail
    go_ret
    exact ⟨by first | rfl | (rw [hrf]; rfl), HB1.out⟩
  have t2 : decide ((4 : Int) < (na : Int)) = false := by simp; omega
  by_cases d3 : ng ≤ 4
  case neg =>
    have t3 : decide ((4 : Int) < (ng : Int)) = true := by simp; omega
    have hrf : t = false := HF.out (fun h => d3 h.2.2.1)
    clear d2 d3
    go_wp2_with fail
    go_ret
    exact ⟨by first | rfl | (rw [hrf]; rfl), HB1.out⟩
  have t3 : decide ((4 : Int) < (ng : Int)) = false := by simp; omega
  have HD2 := Lib.hid d2
  have HD3 := Lib.hid d3
  clear d3
  go_wp2_with fail
  go_loopw [6, 33] (fun lo j wr => ∃ i : Nat, j = .int .i64 i ∧ i ≤ na ∧ lo = .int .i64 (lowI as_ i) ∧ (∀ j, j < i → AskOk (n : Int) q as_ j) ∧ Below W1.heap.size W1 wr) (fun _ j _ => na - (intOf j).toNat)
  case atStart => exact ⟨0, rfl, by omega, rfl, (fun j hj => by omega), Below.refl _ _⟩
  case round =>
    obtain ⟨i, rfl, hi, rfl, hal, hb⟩ := hrel
    obtain ⟨V0, rfl⟩ : ∃ V : World, V = wr := ⟨_, rfl⟩
    have HA := Lib.hid hal
    have HB := Lib.hid hb
    have HBw : Hid (Below w.heap.size w V0) := Lib.hid (HB1.out.trans (hb.mono HB1.out.size))
    have HKV := Lib.hid (HKp.out.below hb HKp.out.lt)
    have HLow : Hid (∀ j, lowI as_ (j + 1) = (akA as_ j).n + 1) := Lib.hid (fun j => rfl)
    obtain ⟨lo, hlo⟩ : ∃ lo, lo = lowI as_ i := ⟨_, rfl⟩
    rw [← hlo]
    have HLo := Lib.hid hlo
    clear hal hb y1 y3 y4 y5 hlo
    by_cases hlt : i < na
    case pos =>
      have hil : i < as_.length := by rw [L3.out]; exact hlt
      obtain ⟨b, off, rfl, hbw, hc⟩ := akR.spots (HI.out.as_.next HBw.out).rd (show 0 < na by omega)
      have hg := akA_get hil
      have HIff : Hid (AskOk (n : Int) q as_ i ↔ (0 ≤ (akA as_ i).o ∧ (akA as_ i).o < (n : Int)) ∧ (lo ≤ (akA as_ i).n ∧ (akA as_ i).n ≤ q)) := Lib.hid (by rw [HLo.out]; exact ask_low HA.out)
      have HLn : Hid (lowI as_ (i + 1) = (akA as_ i).n + 1) := Lib.hid rfl
      obtain ⟨u1, hu1⟩ : ∃ r, r = akA as_ i := ⟨_, rfl⟩
      rw [← hu1] at hg HIff HLn
      have e0 := hc i u1 hg 0 _ rfl
      have e1 := hc i u1 hg 1 _ rfl
      have HNx : Hid (AskOk (n : Int) q as_ i → ∀ j, j < i + 1 → AskOk (n : Int) q as_ j) := Lib.hid (fun h j hj => by
        rcases Nat.lt_or_ge j i with h1 | h1
        · exact HA.out j h1
        · obtain rfl : j = i := by omega
          exact h)
      have HNo : Hid (¬ AskOk (n : Int) q as_ i → t = false) := Lib.hid (fun h => HF.out (fun k => h (k.2.2.2.1 i hlt)))
      obtain ⟨xo, xn⟩ := u1
      have HU1 : Hid (akA as_ i = ⟨xo, xn⟩) := Lib.hid hu1.symm
      simp only [akR, Nat.add_zero, ← Nat.add_assoc] at e0 e1
      simp only at HIff HLn
      obtain ⟨V1, hV1⟩ : ∃ V1, V1 = V0.alloc (.cells #[.int .i64 xo, .int .i64 xn] 59) := ⟨_, rfl⟩
      have hbV1 : Below V0.heap.size V0 V1 := hV1 ▸ (Below.refl _ _).alloc (Nat.le_refl _) _
      have HBwV1 : Hid (Below w.heap.size w V1) := Lib.hid (HBw.out.trans (hbV1.mono HBw.out.size))
      have HB1V1 : Hid (Below W1.heap.size W1 V1) := Lib.hid (HB.out.trans (hbV1.mono HB.out.size))
      have m3 : V1.cell? ⟨p, 3, none⟩ = some (.int .i64 q) := (HKV.out.below hbV1 HKV.out.lt).cell 3
      have HBo : Hid (Below w.heap.size w V1) := Lib.hid HBwV1.out
      have HBo1 : Hid (Below W1.heap.size W1 V1) := Lib.hid HB1V1.out
      rw [hV1] at m3 HBo HBo1
      have HV1 := Lib.hid hV1
      have hid1 : i < na := hlt
      clear hc hg hu1 hbw hil hbV1 hV1
      go_wp2_with fail
      rw [← HV1.out]
      by_cases g0 : 0 ≤ xo ∧ xo < (n : Int)
      case neg =>
        have hrf : t = false := HNo.out (fun h => g0 (HIff.out.1 h).1)
        refine (belowB (x := xo) (k := (n : Int)) false V1 (decide_eq_false g0)).mono ?_
        rintro e wq ⟨rfl, hw⟩
        rw [hw, HV1.out]
        clear hw wq
        clear g0
        go_wp2_with fail
        go_ret
        exact ⟨by first | rfl | (rw [hrf]; rfl), HBo.out⟩
      refine (belowB (x := xo) (k := (n : Int)) true V1 (decide_eq_true g0)).mono ?_
      rintro e wq ⟨rfl, hw⟩
      rw [hw, HV1.out]
      clear hw wq
      have HG0 := Lib.hid g0
      clear g0
      go_wp2_with fail
      rw [← HV1.out]
      by_cases g1 : lo ≤ xn ∧ xn ≤ q
      case neg =>
        have hrf : t = false := HNo.out (fun h => g1 (HIff.out.1 h).2)
        refine (withinB (x := xn) (a := lo) (b := q) false V1 (decide_eq_false g1)).mono ?_
        rintro e wq ⟨rfl, hw⟩
        rw [hw, HV1.out]
        clear hw wq
        clear g1
        go_wp2_with fail
        go_ret
        exact ⟨by first | rfl | (rw [hrf]; rfl), HBo.out⟩
      refine (withinB (x := xn) (a := lo) (b := q) true V1 (decide_eq_true g1)).mono ?_
      rintro e wq ⟨rfl, hw⟩
      rw [hw, HV1.out]
      clear hw wq
      have HN := Lib.hid (HNx.out (HIff.out.2 ⟨HG0.out, g1⟩))
      have hx64 : -9223372036854775808 ≤ xn := (HI.out.a ⟨xo, xn⟩ (by have h1 := akA_get (l := as_) (i := i) (by rw [L3.out]; exact hlt); have h2 : akA as_ i = ⟨xo, xn⟩ := HU1.out; rw [h2] at h1; exact List.mem_of_getElem? h1)).2.1
      have hxq : xn ≤ q := g1.2
      obtain ⟨x2, hx2⟩ : ∃ x2, x2 = xn + 1 := ⟨_, rfl⟩
      have kw : IntKind.i64.wrap (xn + 1) = x2 := by rw [hx2]; exact IntWalk.i64_in _ ⟨by omega, by omega⟩
      have HX2 : Hid (x2 = lowI as_ (i + 1)) := Lib.hid (by rw [HLn.out, hx2])
      clear g1 hx2
      go_wp2_with fail
      clear kw
      go_roundw
      case rel => exact ⟨i + 1, by go_num, by omega, by rw [HX2.out], HN.out, HBo1.out⟩
      case measure => simp [intOf]; omega
    case neg =>
    have HAs : Hid (∀ i, i < na → AskOk (n : Int) q as_ i) := Lib.hid (fun j hj => HA.out j (by omega))
    have z5 := HKV.out.cell 5
    clear HA HLow HLo
    go_wp2_with fail
    go_loopw [58] (fun j wr => ∃ i : Nat, j = .int .i64 i ∧ i ≤ ng ∧ (∀ x ∈ gs.take i, GotOk (ps.length : Int) (n : Int) q x) ∧ Below W1.heap.size W1 wr) (fun j _ => ng - (intOf j).toNat)
    case atStart => exact ⟨0, rfl, by omega, (fun x hx => by simp at hx), HB.out⟩
    case round =>
      obtain ⟨k, rfl, hk, hal2, hb5⟩ := hrel
      obtain ⟨U0, rfl⟩ : ∃ V : World, V = wr := ⟨_, rfl⟩
      have HA2 := Lib.hid hal2
      have HBu := Lib.hid hb5
      have HBwu : Hid (Below w.heap.size w U0) := Lib.hid (HB1.out.trans (hb5.mono HB1.out.size))
      have HKU := Lib.hid (HKp.out.below hb5 HKp.out.lt)
      clear hal2 hb5 z5
      by_cases hlt2 : k < ng
      case neg =>
        have hrt : t = true := HEq.out.2 ⟨HD1.out, HD2.out, HD3.out, HAs.out, fun x hx => HA2.out x (by rw [List.take_of_length_le (by rw [L4.out]; omega)]; exact hx)⟩
        go_wp2_with fail
        go_ret
        exact ⟨by first | rfl | (rw [hrt]; rfl), HBwu.out⟩
      have hkl : k < gs.length := by rw [L4.out]; exact hlt2
      obtain ⟨b3, off3, rfl, hbw3, hc3⟩ := fdR.spots (HI.out.gs.next HBwu.out).rd (show 0 < ng by omega)
      have hg3 := fdA_get hkl
      obtain ⟨u3, hu3⟩ : ∃ r, r = fdA gs k := ⟨_, rfl⟩
      rw [← hu3] at hg3
      have HG3 := Lib.hid hg3
      have HM3 := Lib.hid (List.mem_of_getElem? hg3)
      have f0 := hc3 k u3 hg3 0 _ rfl
      have f1 := hc3 k u3 hg3 1 _ rfl
      have f2 := hc3 k u3 hg3 2 _ rfl
      have HNx3 : Hid (GotOk (ps.length : Int) (n : Int) q u3 → ∀ x ∈ gs.take (k + 1), GotOk (ps.length : Int) (n : Int) q x) := Lib.hid (fun h x hx => by
        rw [List.take_add_one, HG3.out] at hx
        rcases List.mem_append.1 hx with hx | hx
        · exact HA2.out x hx
        · have := List.mem_singleton.1 (by simpa using hx)
          rw [this]; exact h)
      have HNo3 : Hid (¬ GotOk (ps.length : Int) (n : Int) q u3 → t = false) := Lib.hid (fun h => HF.out (fun g => h (g.2.2.2.2 u3 HM3.out)))
      obtain ⟨xo, xn, xw⟩ := u3
      have HIff3 : Hid (GotOk (ps.length : Int) (n : Int) q ⟨xo, xn, xw⟩ ↔ (0 ≤ xo ∧ xo < (n : Int)) ∧ (1 ≤ xn ∧ xn ≤ q) ∧ 0 ≤ xw ∧ xw < (ps.length : Int)) := Lib.hid Iff.rfl
      simp only [fdR, Nat.add_zero, ← Nat.add_assoc] at f0 f1 f2
      obtain ⟨U1, hU1⟩ : ∃ V1, V1 = U0.alloc (.cells #[.int .i64 xo, .int .i64 xn, .int .i64 xw] 61) := ⟨_, rfl⟩
      have hbU1 : Below U0.heap.size U0 U1 := hU1 ▸ (Below.refl _ _).alloc (Nat.le_refl _) _
      have HBwU1 : Hid (Below w.heap.size w U1) := Lib.hid (HBwu.out.trans (hbU1.mono HBwu.out.size))
      have HBU1 : Hid (Below W1.heap.size W1 U1) := Lib.hid (HBu.out.trans (hbU1.mono HBu.out.size))
      have HTU := Lib.hid (HT.out.below_ HBwU1.out)
      have m3 : U1.cell? ⟨p, 3, none⟩ = some (.int .i64 q) := (HKU.out.below hbU1 HKU.out.lt).cell 3
      have HBo : Hid (Below w.heap.size w U1) := Lib.hid HBwU1.out
      have HBo1 : Hid (Below W1.heap.size W1 U1) := Lib.hid HBU1.out
      rw [hU1] at m3 HBo HBo1
      have HU1 := Lib.hid hU1
      have hid2 : k < ng := hlt2
      clear hc3 hg3 hu3 hbw3 hkl hbU1 hU1
      go_wp2_with fail
      rw [← HU1.out]
      by_cases g0 : 0 ≤ xo ∧ xo < (n : Int)
      case neg =>
        have hrf : t = false := HNo3.out (fun h => g0 (HIff3.out.1 h).1)
        refine (belowB (x := xo) (k := (n : Int)) false U1 (decide_eq_false g0)).mono ?_
        rintro e wq ⟨rfl, hw⟩
        rw [hw, HU1.out]
        clear hw wq
        clear g0
        go_wp2_with fail
        go_ret
        exact ⟨by first | rfl | (rw [hrf]; rfl), HBo.out⟩
      refine (belowB (x := xo) (k := (n : Int)) true U1 (decide_eq_true g0)).mono ?_
      rintro e wq ⟨rfl, hw⟩
      rw [hw, HU1.out]
      clear hw wq
      have HG0 := Lib.hid g0
      clear g0
      go_wp2_with fail
      rw [← HU1.out]
      by_cases g1 : 1 ≤ xn ∧ xn ≤ q
      case neg =>
        have hrf : t = false := HNo3.out (fun h => g1 (HIff3.out.1 h).2.1)
        refine (withinB (x := xn) (a := 1) (b := q) false U1 (decide_eq_false g1)).mono ?_
        rintro e wq ⟨rfl, hw⟩
        rw [hw, HU1.out]
        clear hw wq
        clear g1
        go_wp2_with fail
        go_ret
        exact ⟨by first | rfl | (rw [hrf]; rfl), HBo.out⟩
      refine (withinB (x := xn) (a := 1) (b := q) true U1 (decide_eq_true g1)).mono ?_
      rintro e wq ⟨rfl, hw⟩
      rw [hw, HU1.out]
      clear hw wq
      have HG1 := Lib.hid g1
      clear g1
      go_wp2_with fail
      rw [← HU1.out]
      by_cases g2 : 0 ≤ xw ∧ xw < (ps.length : Int)
      case neg =>
        have hrf : t = false := HNo3.out (fun h => g2 (HIff3.out.1 h).2.2)
        refine (hasB_ (v := xw) false U1 HTU.out (decide_eq_false g2)).mono ?_
        rintro e wq ⟨rfl, hw⟩
        rw [hw, HU1.out]
        clear hw wq
        clear g2
        go_wp2_with fail
        go_ret
        exact ⟨by first | rfl | (rw [hrf]; rfl), HBo.out⟩
      have HN := Lib.hid (HNx3.out (HIff3.out.2 ⟨HG0.out, HG1.out, g2⟩))
      refine (hasB_ (v := xw) true U1 HTU.out (decide_eq_true g2)).mono ?_
      rintro e wq ⟨rfl, hw⟩
      rw [hw, HU1.out]
      clear hw wq
      clear g2
      go_wp2_with fail
      go_roundw
      case rel => exact ⟨k + 1, by go_num, by omega, HN.out, HBo1.out⟩
      case measure => simp [intOf]; omega
end Go.Proofs.Ytiaafhcfeeekeaa.Pk

/- The landed Good of package state. -/
namespace Go.Proofs.Ytiaafhcfeeekeaa.Pk
open Go.RowKit Go.Proofs.Ytiaafhcfeeekeaa.Gr
set_option linter.unusedVariables false
attribute [local go_sem] Oper.semAt_some
theorem goodS_iff {ps : List Int} {s : St} : GoodS ps s ↔ (0 ≤ s.me ∧ s.me < (ps.length : Int)) ∧ ObjsOk ps s ∧ EdgesOk ps s ∧ LocOk ps s ∧ sumK s.os ≤ 8 :=
  ⟨fun h => ⟨h.me, ⟨h.many, h.os⟩, ⟨h.ps_, h.es⟩, ⟨h.q, h.an, h.gn, h.as_, h.gs⟩, h.few⟩, fun h => ⟨h.1, h.2.1.1, h.2.1.2, h.2.2.1.1, h.2.2.1.2, h.2.2.2.1.1, h.2.2.2.1.2.1, h.2.2.2.1.2.2.1, h.2.2.2.1.2.2.2.1, h.2.2.2.1.2.2.2.2, h.2.2.2.2⟩⟩
set_option maxRecDepth 100000 in
set_option maxHeartbeats 8000000 in
theorem goodS : StGoodP := by
  intro T g ps s w htr G hin
  obtain ⟨t, ht⟩ := bool_of (GoodS ps s.v)
  have HTt := Lib.hid ht
  clear ht
  suffices hh : Calls Try.prog 14 #[.pointer (some ⟨T, 0, none⟩), s.val] w fun e w' => e = .returned (.bool t) ∧ Below w.heap.size w w' from hh.mono fun e w' h => ⟨t, h.1, HTt.out, h.2⟩
  have HIff := Lib.hid (HTt.out.trans goodS_iff)
  have HF := Lib.hid (fun h => not_of HIff.out h)
  have HI := Lib.hid hin
  have HT := Lib.hid htr
  have HG := Lib.hid G
  have HOb := Lib.hid (fun W h0 h1 (hW : Below w.heap.size w W) => goodObjs_any T g ps s W (htr.below_ hW) G h0 h1 (hin.next hW))
  have HEd := Lib.hid (fun W (hW : Below w.heap.size w W) => goodEdges_any T g ps s W (htr.below_ hW) G (hin.next hW))
  have HLo := Lib.hid (fun W (hW : Below w.heap.size w W) => goodLoc_any T g ps s W (htr.below_ hW) (hin.next hW))
  have HOp := Lib.hid (fun W (hW : Below w.heap.size w W) => openS s W (hin.next hW))
  have HSum : Hid (ObjsOk ps s.v → openW s.v.os = (sumK s.v.os : Int)) := Lib.hid (fun h => by
    have hm := h.1
    simp only [StL.v, List.length_map] at hm
    refine open_is s.os _ rfl hm.2 (fun x hx => ?_)
    have h1 := (hin.o x hx).c.len
    have h2 : x.s.n * 32 ≤ 140737488351232 := (hin.o x hx).c.few
    omega)
  obtain ⟨me, os, ⟨A, n, c⟩, es, ⟨A', n', c'⟩, q, as_, ⟨Aa, na, ca⟩, gs, ⟨Ag, ng, cg⟩⟩ := s
  have L1 : Hid (os.length = n) := Lib.hid HI.out.os.len
  have L2 : Hid (es.length = n') := Lib.hid HI.out.es.len
  have L3 : Hid (as_.length = na) := Lib.hid HI.out.as_.len
  have L4 : Hid (gs.length = ng) := Lib.hid HI.out.gs.len
  have b1 : n * 40 ≤ 140737488351232 := HI.out.os.few
  have b2 : n' * 48 ≤ 140737488351232 := HI.out.es.few
  have b3 : na * 16 ≤ 140737488351232 := HI.out.as_.few
  have b4 : ng * 24 ≤ 140737488351232 := HI.out.gs.few
  have k1 : n ≤ c := HI.out.os.cap
  have k2 : n' ≤ c' := HI.out.es.cap
  have k3 : na ≤ ca := HI.out.as_.cap
  have k4 : ng ≤ cg := HI.out.gs.cap
  clear hin htr G HTt
  simp only [StL.val, Sl.val] at HOb HEd HLo HOp
  show Calls Try.prog 14 #[.pointer (some ⟨T, 0, none⟩), .agg #[.int .i64 me, .slice A n c, .slice A' n' c', .int .i64 q, .slice Aa na ca, .slice Ag ng cg]] w _
  obtain ⟨p, hp⟩ : ∃ p, p = w.heap.size := ⟨_, rfl⟩
  obtain ⟨W1, hW1⟩ : ∃ W1, W1 = w.alloc (.cells #[.int .i64 me, .slice A n c, .slice A' n' c', .int .i64 q, .slice Aa na ca, .slice Ag ng cg] 28) := ⟨_, rfl⟩
  have HB1 : Hid (Below w.heap.size w W1) := Lib.hid (hW1 ▸ (Below.refl _ _).alloc (Nat.le_refl _) _)
  have HKp : Hid (Blk W1 p 28 #[.int .i64 me, .slice A n c, .slice A' n' c', .int .i64 q, .slice Aa na ca, .slice Ag ng cg]) := Lib.hid (by rw [hW1, hp]; exact Blk.new w _ _)
  have y0 := HKp.out.cell 0
  go_enter Try.func14, Try.ntmps14
  go_wp2_with fail
  rw [← hW1, ← hp]
  clear hW1 hp
  by_cases d1 : 0 ≤ me ∧ me < (ps.length : Int)
  case neg =>
    have hrf : t = false := HF.out (fun h => d1 h.1)
    refine (hasB_ (v := me) false W1 (HT.out.below_ HB1.out) (decide_eq_false d1)).mono ?_
    rintro e wq ⟨rfl, hw⟩
    rw [hw]
    clear hw wq
    clear d1
    go_wp2_with fail
    go_ret
    exact ⟨by first | rfl | (rw [hrf]; rfl), HB1.out⟩
  refine (hasB_ (v := me) true W1 (HT.out.below_ HB1.out) (decide_eq_true d1)).mono ?_
  rintro e wq ⟨rfl, hw⟩
  rw [hw]
  clear hw wq
  have HD1 := Lib.hid d1
  clear d1
  have y1 := HKp.out.cell 1
  have y2 := HKp.out.cell 2
  have y3 := HKp.out.cell 3
  have y4 := HKp.out.cell 4
  have y5 := HKp.out.cell 5
  go_wp2_with fail
  refine (HOb.out W1 HD1.out.1 HD1.out.2 HB1.out).mono ?_
  rintro e V1 ⟨t1, rfl, hi1, hb1⟩
  have HI1 := Lib.hid hi1
  have HBn1 : Hid (Below w.heap.size w V1) := Lib.hid (HB1.out.trans (hb1.mono HB1.out.size))
  have HKn1 := Lib.hid (HKp.out.below hb1 HKp.out.lt)
  clear hi1 hb1 y0 y1 y2 y3 y4 y5
  have y0 := HKn1.out.cell 0
  have y1 := HKn1.out.cell 1
  have y2 := HKn1.out.cell 2
  have y3 := HKn1.out.cell 3
  have y4 := HKn1.out.cell 4
  have y5 := HKn1.out.cell 5
  cases t1 with
  | false =>
    have hrf : t = false := HF.out (fun h => by have := HI1.out.2 h.2.1; cases this)
    go_wp2_with fail
    go_ret
    exact ⟨by first | rfl | (rw [hrf]; rfl), HBn1.out⟩
  | true =>
  have HP1 := Lib.hid (HI1.out.1 rfl)
  go_wp2_with fail
  refine (HEd.out V1 HBn1.out).mono ?_
  rintro e V2 ⟨t2, rfl, hi2, hb2⟩
  have HI2 := Lib.hid hi2
  have HBn2 : Hid (Below w.heap.size w V2) := Lib.hid (HBn1.out.trans (hb2.mono HBn1.out.size))
  have HKn2 := Lib.hid (HKn1.out.below hb2 HKn1.out.lt)
  clear hi2 hb2 y0 y1 y2 y3 y4 y5
  have y0 := HKn2.out.cell 0
  have y1 := HKn2.out.cell 1
  have y2 := HKn2.out.cell 2
  have y3 := HKn2.out.cell 3
  have y4 := HKn2.out.cell 4
  have y5 := HKn2.out.cell 5
  cases t2 with
  | false =>
    have hrf : t = false := HF.out (fun h => by have := HI2.out.2 h.2.2.1; cases this)
    go_wp2_with fail
    go_ret
    exact ⟨by first | rfl | (rw [hrf]; rfl), HBn2.out⟩
  | true =>
  have HP2 := Lib.hid (HI2.out.1 rfl)
  go_wp2_with fail
  refine (HLo.out V2 HBn2.out).mono ?_
  rintro e V3 ⟨t3, rfl, hi3, hb3⟩
  have HI3 := Lib.hid hi3
  have HBn3 : Hid (Below w.heap.size w V3) := Lib.hid (HBn2.out.trans (hb3.mono HBn2.out.size))
  have HKn3 := Lib.hid (HKn2.out.below hb3 HKn2.out.lt)
  clear hi3 hb3 y0 y1 y2 y3 y4 y5
  have y0 := HKn3.out.cell 0
  have y1 := HKn3.out.cell 1
  have y2 := HKn3.out.cell 2
  have y3 := HKn3.out.cell 3
  have y4 := HKn3.out.cell 4
  have y5 := HKn3.out.cell 5
  cases t3 with
  | false =>
    have hrf : t = false := HF.out (fun h => by have := HI3.out.2 h.2.2.2.1; cases this)
    go_wp2_with fail
    go_ret
    exact ⟨by first | rfl | (rw [hrf]; rfl), HBn3.out⟩
  | true =>
  have HP3 := Lib.hid (HI3.out.1 rfl)
  go_wp2_with fail
  refine (HOp.out V3 HBn3.out).mono ?_
  rintro e V4 ⟨rfl, hb4⟩
  have HB4 : Hid (Below w.heap.size w V4) := Lib.hid (HBn3.out.trans (hb4.mono HBn3.out.size))
  clear hb4 y0 y1 y2 y3 y4 y5
  rw [HSum.out HP1.out]
  obtain ⟨sm, hsm⟩ : ∃ sm : Nat, sm = sumK (StL.v ⟨me, os, ⟨A, n, c⟩, es, ⟨A', n', c'⟩, q, as_, ⟨Aa, na, ca⟩, gs, ⟨Ag, ng, cg⟩⟩).os := ⟨_, rfl⟩
  rw [← hsm]
  have HS := Lib.hid hsm
  clear hsm
  by_cases d4 : sm ≤ 8
  case neg =>
    have hrf : t = false := HF.out (fun h => d4 (by rw [HS.out]; exact h.2.2.2.2))
    have t4 : decide ((sm : Int) ≤ 8) = false := by simp; omega
    clear d4
    go_wp2_with fail
    go_ret
    exact ⟨by first | rfl | (rw [hrf]; rfl), HB4.out⟩
  have hrt : t = true := HIff.out.2 ⟨HD1.out, HP1.out, HP2.out, HP3.out, by rw [HS.out] at d4; exact d4⟩
  have t4 : decide ((sm : Int) ≤ 8) = true := by simp; omega
  clear d4
  go_wp2_with fail
  go_ret
  exact ⟨by first | rfl | (rw [hrt]; rfl), HB4.out⟩
end Go.Proofs.Ytiaafhcfeeekeaa.Pk

/- The document's answers (fletchref13): Add. -/
namespace Go.Proofs.Ytiaafhcfeeekeaa.Pk
open Go.RowKit
set_option linter.unusedVariables false
attribute [local go_sem] Oper.semAt_some













end Go.Proofs.Ytiaafhcfeeekeaa.Pk

/- What package chain promises (to be proved of the code that lands). -/
namespace Go.Proofs.Ytiaafhcfeeekeaa.Pk
open Go.RowKit
set_option linter.unusedVariables false
def AddP : Prop := ∀ (A : Option Addr) (n c : Nat) (l : List Ce) (x : Int) (w : World), InK w l A n c → J64 x →
  Calls Try.prog 59 #[.slice A n c, .int .i64 x] w fun e w' => ∃ v, e = .returned v ∧ OwnK w' w.heap.size v (addK l x) ∧ Below w.heap.size w w'
def SuccP : Prop := ∀ (A : Option Addr) (n c : Nat) (l : List Ce) (d x : Int) (w : World), InK w l A n c → J64 d → J64 x →
  Calls Try.prog 78 #[.slice A n c, .int .i64 d, .int .i64 x] w fun e w' => ∃ v, e = .returned (.tuple #[v, .bool (succK l d x).2]) ∧ OwnK w' w.heap.size v (succK l d x).1 ∧ Below w.heap.size w w'
def GrantP : Prop := ∀ (A : Option Addr) (n c : Nat) (l : List Ce) (x : Int) (w : World), InK w l A n c → J64 x →
  Calls Try.prog 80 #[.slice A n c, .int .i64 x] w fun e w' => ∃ v, e = .returned (.tuple #[v, .bool (grantK l x).2]) ∧ OwnK w' w.heap.size v (grantK l x).1 ∧ Below w.heap.size w w'
def RelP : Prop := ∀ (A : Option Addr) (n c : Nat) (l : List Ce) (w : World), InK w l A n c →
  Calls Try.prog 61 #[.slice A n c] w fun e w' => ∃ v, e = .returned (.tuple #[v, .int .i64 (relK l).2.1, .int .i64 (relK l).2.2.1, .int .i64 (relK l).2.2.2]) ∧ OwnK w' w.heap.size v (relK l).1 ∧ Below w.heap.size w w'
end Go.Proofs.Ytiaafhcfeeekeaa.Pk
