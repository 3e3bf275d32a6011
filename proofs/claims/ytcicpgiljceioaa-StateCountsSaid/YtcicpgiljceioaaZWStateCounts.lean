/- The walk of the law StateCounts. -/
import Derived.Test.YtcicpgiljceioaaZStSpoil
import Derived.Test.YtcicpgiljceioaaZStMeant
import Derived.Test.YtcicpgiljceioaaZStGood
import Derived.Test.YtcicpgiljceioaaZTrNext
import Derived.Test.YtcicpgiljceioaaZStArgN
import Derived.Deep.RegionHeld3
import Derived.Deep.DeepMust
namespace Go.Proofs.Ytcicpgiljceioaa.Pk
open Go.RowKit Go.Proofs.Ytcicpgiljceioaa.Gr Go.Proofs.Ytcicpgiljceioaa.Ar
set_option linter.unusedVariables false
attribute [local go_sem] Oper.semAt_some
theorem below_setc' {B : Nat} {a w : World} (h : Below B a w) {g : Nat} (hg : B ≤ g) (j : Nat) (u : Value) : Below B a (w.setCell ⟨g, j, none⟩ u) := h.setCell (p := ⟨g, j, none⟩) hg u
set_option maxRecDepth 100000 in
set_option maxHeartbeats 16000000 in
theorem law_StateCounts (HFi : StFirstP) (HGo : StGoodP) (HOp : StOpenP) (HSa : StSameP) (HCo : StCopyP) (A : Option Addr) (n c : Nat) (ps : List Int) (s : StL) (sp : Int) (w : World) (hk : ArgN w A n c ps) (hs : InS w s) (hsp : I64 sp) :
    Calls Try.prog 8 #[.slice A n c, s.val, .int .i64 sp] w fun e w' => e = .returned (.bool true) ∧ Below w.heap.size w w' := by
  have HW := Lib.hid (fun w => wakesS HFi HGo w)
  have HRd := Lib.hid hk.1
  have hn : n ≤ 4611686018427387904 := by have h1 := hk.2.1; have h2 := hk.2.2.1; omega
  have HL : Hid (ps.length = n) := Lib.hid hk.1.plen
  have HI := Lib.hid hs
  have HGo := Lib.hid HGo
  clear hk hs
  obtain ⟨p, hp⟩ : ∃ p, p = w.heap.size := ⟨_, rfl⟩
  obtain ⟨W1, hW1⟩ : ∃ W1, W1 = w.alloc (.cells s.val.cells 30) := ⟨_, rfl⟩
  have HB1 : Hid (Below w.heap.size w W1) := Lib.hid (hW1 ▸ (Below.refl _ _).alloc (Nat.le_refl _) _)
  have HKp : Hid (Blk W1 p 30 s.val.cells) := Lib.hid (by rw [hW1, hp]; exact Blk.new w _ _)
  have HIW := Lib.hid (fun W (hW : Below W1.heap.size W1 W) => HI.out.next (HB1.out.trans (hW.mono HB1.out.size)))
  have HTr : Hid (∀ {W w' : World}, Below W1.heap.size W1 W → Below W.heap.size W w' → Below W1.heap.size W1 w') := Lib.hid (fun h k => h.trans (k.mono h.size))
  obtain ⟨s0, hs0⟩ : ∃ s0, s0 = s := ⟨_, rfl⟩
  have HS0 := Lib.hid hs0
  obtain ⟨sv, hsv⟩ : ∃ v, v = s.val := ⟨_, rfl⟩
  have HG9 : Hid (∀ (T g : Nat) (W : World), IsTr W T g ps → Gr.Good ps → Below W1.heap.size W1 W → Calls Try.prog 16 #[.pointer (some ⟨T, 0, none⟩), s.val] W fun e w' => ∃ b, e = .returned (.bool b) ∧ (b = true ↔ GoodS ps s0.v) ∧ Below W1.heap.size W1 w') := Lib.hid (fun T g W ht G hW => (HGo.out T g ps s W ht G (HIW.out W hW)).mono fun e w' ⟨b, h1, h2, h3⟩ => ⟨b, h1, hs0 ▸ h2, HTr.out hW h3⟩)
  have HOp9 : Hid (∀ W, Below W1.heap.size W1 W → Calls Try.prog 17 #[s.val] W fun e w' => e = .returned (.int .i64 (openW s0.v.os)) ∧ Below W.heap.size W w') := Lib.hid (fun W hW => (HOp s W (HIW.out W hW)).mono fun e w' h => ⟨hs0 ▸ h.1, h.2⟩)
  have HC9 : Hid (∀ W, Below W1.heap.size W1 W → Calls Try.prog 23 #[s.val] W fun e w' => ∃ s2 : StL, e = .returned s2.val ∧ s2.v = s0.v ∧ OwnS w' W.heap.size s2 ∧ Below W.heap.size W w') := Lib.hid (fun W hW => (HCo s W (HIW.out W hW)).mono fun e w' ⟨s2, h1, h2, h3, h4⟩ => ⟨s2, h1, hs0 ▸ h2, h3, h4⟩)
  have HS9 : Hid (∀ (x : StL) W, InS W x → Below W1.heap.size W1 W → Calls Try.prog 22 #[x.val, s.val] W fun e w' => e = .returned (.bool (decide (x.v = s0.v))) ∧ Below W.heap.size W w') := Lib.hid (fun x W hx hW => (HSa x s W hx (HIW.out W hW)).mono fun e w' h => ⟨hs0 ▸ h.1, h.2⟩)
  have HFw : Hid (FewS s0.v) := Lib.hid (by rw [hs0]; exact HI.out.few)
  have HSum : Hid (GoodS ps s0.v → openW s0.v.os = (sumK s0.v.os : Int)) := Lib.hid (fun h => by
    rw [hs0] at h ⊢
    have hm := h.many
    simp only [StL.v, List.length_map] at hm
    refine open_is s.os _ rfl hm.2 (fun x hx => ?_)
    have h1 := (HI.out.o x hx).c.len
    have h2 : x.s.n * 32 ≤ 140737488351232 := (HI.out.o x hx).c.few
    omega)
  clear HI HOp HSa HCo hsv hs0 sv
  obtain ⟨me, os, ⟨D1, d1, k1⟩, es, ⟨D2, d2, k2⟩, q, as_, ⟨D3, d3, k3⟩, gs, ⟨D4, d4, k4⟩⟩ := s
  have L1 : Hid (os.length = d1) := Lib.hid (HIW.out W1 (Below.refl _ _)).os.len
  have L2 : Hid (es.length = d2) := Lib.hid (HIW.out W1 (Below.refl _ _)).es.len
  have b1 : d1 * 40 ≤ 140737488351232 := (HIW.out W1 (Below.refl _ _)).os.few
  have b2 : d2 * 48 ≤ 140737488351232 := (HIW.out W1 (Below.refl _ _)).es.few
  have b3 : d3 * 16 ≤ 140737488351232 := (HIW.out W1 (Below.refl _ _)).as_.few
  have b4 : d4 * 24 ≤ 140737488351232 := (HIW.out W1 (Below.refl _ _)).gs.few
  simp only [StL.val, Sl.val, Value.cells] at HKp HG9 HOp9 HC9 HS9 hW1 ⊢
  have HX : Hid (∀ W, Below W1.heap.size W1 W → W.cell? ⟨p, 0, none⟩ = some (.int .i64 me) ∧ W.cell? ⟨p, 1, none⟩ = some (.slice D1 d1 k1) ∧ W.cell? ⟨p, 2, none⟩ = some (.slice D2 d2 k2) ∧ W.cell? ⟨p, 3, none⟩ = some (.int .i64 q) ∧ W.cell? ⟨p, 4, none⟩ = some (.slice D3 d3 k3) ∧ W.cell? ⟨p, 5, none⟩ = some (.slice D4 d4 k4)) := Lib.hid (fun W hW => by
    have h1 := HKp.out.below hW HKp.out.lt
    exact ⟨h1.cell 0, h1.cell 1, h1.cell 2, h1.cell 3, h1.cell 4, h1.cell 5⟩)
  go_enter Try.func8, Try.ntmps8
  go_wp2_with fail
  rw [← hW1, ← hp]
  clear hW1 hp
  refine (HW.out W1).mono ?_
  rintro e w2 ⟨rfl, hb2⟩
  have HB2 := Lib.hid hb2
  have HB2w : Hid (Below w.heap.size w w2) := Lib.hid (HB1.out.trans (hb2.mono HB1.out.size))
  have HN := Lib.hid (new_any A n c ps w2 w.heap.size (HRd.out.below HB2w.out) HB2w.out.size hn)
  clear hb2
  go_wp2_with fail
  refine HN.out.mono ?_
  rintro e w3 ⟨hb3, ⟨T, g, rfl, hch, ht, hT, hg, hTg⟩ | ⟨u, er, rfl, hch, her⟩⟩
  case inr =>
    have t1 : (er == 0) = false := by simpa using her
    have t2 : (er != 0) = true := by simpa using her
    have HB7 := Lib.hid (HB2w.out.trans (hb3.mono HB2w.out.size))
    have her9 := hch.code
    clear hb3 hch her
    go_wp2_with fail
    go_ret
    exact ⟨rfl, HB7.out⟩
  have HG := Lib.hid hch.good.1
  have HB3 : Hid (Below W1.heap.size W1 w3) := Lib.hid (HTr.out HB2.out hb3)
  have HU : Hid (∀ {W : World}, Below w3.heap.size w3 W → Below W1.heap.size W1 W) := Lib.hid (fun h => HTr.out HB3.out h)
  have HUw : Hid (∀ {W : World}, Below w3.heap.size w3 W → Below w.heap.size w W) := Lib.hid (fun h => HB1.out.trans ((HU.out h).mono HB1.out.size))
  have HT : Hid (∀ {W : World}, Below w3.heap.size w3 W → IsTr W T g ps) := Lib.hid (fun h => ht.below_ h)
  have HT3 : Hid (∀ {W w' : World}, Below w3.heap.size w3 W → Below W.heap.size W w' → Below w3.heap.size w3 w') := Lib.hid (fun h k => h.trans (k.mono h.size))
  have HIn := Lib.hid (fun W (hW : Below w3.heap.size w3 W) => HIW.out W (HU.out hW))
  have HG3 : Hid (∀ W, Below w3.heap.size w3 W → Calls Try.prog 16 #[.pointer (some ⟨T, 0, none⟩), .agg #[.int .i64 me, .slice D1 d1 k1, .slice D2 d2 k2, .int .i64 q, .slice D3 d3 k3, .slice D4 d4 k4]] W fun e w' => ∃ b, e = .returned (.bool b) ∧ (b = true ↔ GoodS ps s0.v) ∧ Below W.heap.size W w') := Lib.hid (fun W hW => (HGo.out T g ps ⟨me, os, ⟨D1, d1, k1⟩, es, ⟨D2, d2, k2⟩, q, as_, ⟨D3, d3, k3⟩, gs, ⟨D4, d4, k4⟩⟩ W (HT.out hW) HG.out (HIn.out W hW)).mono fun e w' ⟨b, h1, h2, h3⟩ => ⟨b, h1, HS0.out ▸ h2, h3⟩)
  have HX3 : Hid (∀ W, Below w3.heap.size w3 W → W.cell? ⟨p, 0, none⟩ = some (.int .i64 me) ∧ W.cell? ⟨p, 1, none⟩ = some (.slice D1 d1 k1) ∧ W.cell? ⟨p, 2, none⟩ = some (.slice D2 d2 k2) ∧ W.cell? ⟨p, 3, none⟩ = some (.int .i64 q) ∧ W.cell? ⟨p, 4, none⟩ = some (.slice D3 d3 k3) ∧ W.cell? ⟨p, 5, none⟩ = some (.slice D4 d4 k4)) := Lib.hid (fun W hW => HX.out W (HU.out hW))
  clear hb3 hch ht hT hg hTg HN HG9
  obtain ⟨y0, y1, y2, y3, y4, y5⟩ := HX3.out w3 (Below.refl _ _)
  go_wp2_with fail
  refine (HG3.out w3 (Below.refl _ _)).mono ?_
  rintro e w4 ⟨b, rfl, hbb, hb4⟩
  have HBb := Lib.hid hbb
  have HB4 := Lib.hid hb4
  clear hb4 hbb y0 y1 y2 y3 y4 y5
  cases b with
  | false =>
    go_wp2_with fail
    go_ret
    exact ⟨rfl, HUw.out HB4.out⟩
  | true =>
  have HGd : Hid (GoodS ps s0.v) := Lib.hid (HBb.out.1 rfl)
  obtain ⟨m8, hm8⟩ : ∃ m8 : Nat, m8 = sumK s0.v.os := ⟨_, rfl⟩
  have hm88 : m8 ≤ 8 := by rw [hm8]; exact HGd.out.few
  have HO3 : Hid (∀ W, Below w3.heap.size w3 W → Calls Try.prog 17 #[.agg #[.int .i64 me, .slice D1 d1 k1, .slice D2 d2 k2, .int .i64 q, .slice D3 d3 k3, .slice D4 d4 k4]] W fun e w' => e = .returned (.int .i64 (m8 : Int)) ∧ Below w3.heap.size w3 w') := Lib.hid (fun W hW => (HOp9.out W (HU.out hW)).mono fun e w' h => ⟨by rw [h.1, HSum.out HGd.out, hm8], HT3.out hW h.2⟩)
  have hnb : (nbsI ps me).length = d2 := by
    have h2 := congrArg List.length HGd.out.ps_
    rw [List.length_map, HS0.out] at h2
    simp only [StL.v, List.length_map] at h2
    rw [← h2]; exact L2.out
  have HN3 : Hid (∀ W, Below w3.heap.size w3 W → Calls Try.prog 26 #[.pointer (some ⟨T, 0, none⟩), .int .i64 me] W fun e w' => ∃ An cn, e = .returned (.slice An d2 cn) ∧ Below w3.heap.size w3 w') := Lib.hid (fun W hW => (nbrs_any T g ps me W (HT.out hW) HG.out.few).mono fun e w' ⟨x, h1, h2, h3⟩ => by
    obtain ⟨An, cn, e2, _, _⟩ := h2.reads
    exact ⟨An, cn, by rw [h1, e2, hnb], HT3.out hW h3⟩)
  have t8 : decide ((8 : Int) < (m8 : Int)) = false := by simp; omega
  have t9 : ((d2 : Int) != (d2 : Int)) = false := by simp
  have HM8 := Lib.hid hm8
  have HB4d : Hid (Below w3.heap.size w3 w4.drew) := Lib.hid (below_drewC HB4.out 1)
  clear hm8 hnb HBb
  have X4 := HX3.out w4 HB4.out
  have X4d := HX3.out w4.drew HB4d.out
  go_wp2_with fail
  go_region_held3 (fun W => W.cell? ⟨p, 0, none⟩ = some (.int .i64 me) ∧ W.cell? ⟨p, 1, none⟩ = some (.slice D1 d1 k1) ∧ W.cell? ⟨p, 2, none⟩ = some (.slice D2 d2 k2) ∧ W.cell? ⟨p, 3, none⟩ = some (.int .i64 q) ∧ W.cell? ⟨p, 4, none⟩ = some (.slice D3 d3 k3) ∧ W.cell? ⟨p, 5, none⟩ = some (.slice D4 d4 k4)) (first | with_reducible exact X4 | with_reducible exact X4d | with_reducible exact X5 | with_reducible exact X6 | (trace_state; fail)) (first
    | (go_at_call 17; go_must (refine (HO3.out _ HB4d.out).mono ?_; rintro e w5 ⟨rfl, hb⟩; have HB5 := Lib.hid hb; have X5 := HX3.out w5 HB5.out; clear hb))
    | (go_at_call 26; go_must (refine (HN3.out _ HB5.out).mono ?_; rintro e w6 ⟨An, cn, rfl, hb⟩; have HB6 := Lib.hid hb; have X6 := HX3.out w6 HB6.out; clear hb)))
  all_goals
    clear X4 X4d X5 X6
    have y1 := (HX3.out w6 HB6.out).2.1
    go_wp2_with fail
    go_loopw [47] (fun j wr => ∃ i : Nat, j = .int .i64 i ∧ i ≤ d1 ∧ Below w3.heap.size w3 wr) (fun j _ => d1 - (intOf j).toNat)
    case atStart => exact ⟨0, rfl, by omega, HB6.out⟩
    case round =>
      obtain ⟨i, rfl, hi, hb⟩ := hrel
      obtain ⟨V0, rfl⟩ : ∃ V : World, V = wr := ⟨_, rfl⟩
      have HB := Lib.hid hb
      clear hb y1
      by_cases hlt : i < d1
      case pos =>
        have hil : i < os.length := by rw [L1.out]; exact hlt
        obtain ⟨b, off, rfl, hbw, hc⟩ := owR.spots (HIn.out V0 HB.out).os.rd (show 0 < d1 by omega)
        have hg := owA_get hil
        obtain ⟨u1, hu1⟩ : ∃ r1, r1 = owA os i := ⟨_, rfl⟩
        rw [← hu1] at hg
        have e0 := hc i u1 hg 0 _ rfl
        have e1 := hc i u1 hg 1 _ rfl
        have e2 := hc i u1 hg 2 _ rfl
        have HMem := Lib.hid (List.mem_of_getElem? hg)
        have HOk : Hid (OwnOk ps me u1.v) := Lib.hid (by
          have h := HGd.out
          rw [HS0.out] at h
          exact h.os u1.v (List.mem_map.2 ⟨u1, HMem.out, rfl⟩))
        have HIo := Lib.hid (fun W (hW : Below w3.heap.size w3 W) => (HIn.out W hW).o u1 HMem.out)
        obtain ⟨⟨ra, rm, rc⟩, ⟨A1, n1, c1⟩⟩ := u1
        simp only [owR, Nat.add_zero, Sl.val, ← Nat.add_assoc] at e0 e1 e2
        have HLr : Hid (rc.length = n1) := Lib.hid (HIo.out V0 HB.out).c.len
        have hn1 : n1 * 32 ≤ 140737488351232 := (HIo.out V0 HB.out).c.few
        have HBare : Hid (bareK rc = if decide (ra = me) = true then 1 else 0) := Lib.hid (bare_of HOk.out.2.2.1)
        obtain ⟨V1, hV1⟩ : ∃ V1, V1 = V0.alloc (.cells #[.int .i64 ra, .int .i64 rm, .slice A1 n1 c1] 55) := ⟨_, rfl⟩
        obtain ⟨bo, hbo⟩ : ∃ bo, bo = V0.heap.size := ⟨_, rfl⟩
        have hb01 : Below V0.heap.size V0 V1 := hV1 ▸ (Below.refl _ _).alloc (Nat.le_refl _) _
        have HB1' : Hid (Below w3.heap.size w3 V1) := Lib.hid (HT3.out HB.out hb01)
        have HKo : Hid (Blk V1 bo 55 #[.int .i64 ra, .int .i64 rm, .slice A1 n1 c1]) := Lib.hid (by rw [hV1, hbo]; exact Blk.new V0 _ _)
        have HUo : Hid (∀ {W : World}, Below V1.heap.size V1 W → Below w3.heap.size w3 W) := Lib.hid (fun h => HT3.out HB1'.out h)
        have HV1 := Lib.hid hV1
        have HBo := Lib.hid hbo
        clear hc hg hu1 hbw hil hb01 hV1 hbo
        have hid1 : i < d1 := hlt
        go_wp2_with fail
        rw [← HV1.out, ← HBo.out]
        go_loopw [11, 54] (fun z j wr => ∃ k : Nat, j = .int .i64 k ∧ k ≤ n1 ∧ z = .int .i64 (bareK (rc.take k) : Nat) ∧ Below V1.heap.size V1 wr) (fun _ j _ => n1 - (intOf j).toNat)
        case atStart => exact ⟨0, rfl, by omega, rfl, Below.refl _ _⟩
        case round =>
          obtain ⟨k, rfl, hk, rfl, hb⟩ := hrel
          obtain ⟨U0, rfl⟩ : ∃ V : World, V = wr := ⟨_, rfl⟩
          have HBu := Lib.hid hb
          clear hb
          by_cases hlt2 : k < n1
          case pos =>
            obtain ⟨b2, off2, rfl, hbw2, hc2⟩ := ceR.spots (HIo.out U0 (HUo.out HBu.out)).c.rd (show 0 < n1 by omega)
            have hkl : k < rc.length := by rw [HLr.out]; exact hlt2
            have hg2 := ceA_get hkl
            have HTk := Lib.hid (bareK_take hkl)
            have HLe := Lib.hid (bareK_le (rc.take k))
            obtain ⟨u2, hu2⟩ : ∃ r1, r1 = ceA rc k := ⟨_, rfl⟩
            rw [← hu2] at hg2 HTk
            have f0 := hc2 k u2 hg2 0 _ rfl
            have f1 := hc2 k u2 hg2 1 _ rfl
            have f2 := hc2 k u2 hg2 2 _ rfl
            have f3 := hc2 k u2 hg2 3 _ rfl
            obtain ⟨cn, cs, cd, cx⟩ := u2
            simp only [ceR, Nat.add_zero, ← Nat.add_assoc] at f0 f1 f2 f3 HTk
            obtain ⟨bk, hbk⟩ : ∃ bk, bk = bareK (rc.take k) := ⟨_, rfl⟩
            have hbk2 : bk ≤ n1 := by rw [hbk]; have := HLe.out; rw [List.length_take] at this; omega
            rw [← hbk] at HTk ⊢
            have HBu2 : Hid (Below V1.heap.size V1 (U0.alloc (.cells #[.int .i64 cn, .int .i64 cs, .int .i64 cd, .int .i64 cx] 57))) := Lib.hid (HBu.out.alloc HBu.out.size _)
            have hid2 : k < n1 := hlt2
            clear hc2 hg2 hu2 hbk hbw2 hkl
            by_cases h1 : cd = -1
            case pos =>
              have t1 : (cd == -1) = true := by simp [h1]
              have HS : Hid (bareK (rc.take (k + 1)) = bk + 1) := Lib.hid (by rw [HTk.out, if_pos h1])
              clear h1
              go_wp2_with fail
              go_roundw
              case rel => exact ⟨k + 1, by go_num, by omega, by rw [HS.out]; go_num, HBu2.out⟩
              case measure => simp [intOf]; omega
            case neg =>
              have t1 : (cd == -1) = false := by simp [h1]
              have HS : Hid (bareK (rc.take (k + 1)) = bk) := Lib.hid (by rw [HTk.out, if_neg h1]; rfl)
              clear h1
              go_wp2_with fail
              go_roundw
              case rel => exact ⟨k + 1, by go_num, by omega, by rw [HS.out], HBu2.out⟩
              case measure => simp [intOf]; omega
          case neg =>
            have HF : Hid (bareK (rc.take k) = bareK rc) := Lib.hid (by rw [List.take_of_length_le (by rw [HLr.out]; omega)])
            have o0 : U0.cell? ⟨bo, 0, none⟩ = some (.int .i64 ra) := (HKo.out.below HBu.out HKo.out.lt).cell 0
            have p0 := (HX3.out U0 (HUo.out HBu.out)).1
            have HBr : Hid (Below w3.heap.size w3 U0) := Lib.hid (HUo.out HBu.out)
            rw [HF.out, HBare.out]
            by_cases hs : ra = me
            case pos =>
              have t1 : (ra == me) = true := by simp [hs]
              rw [decide_eq_true hs, if_pos rfl]
              clear hs
              go_wp2_with fail
              go_roundw
              case rel => exact ⟨i + 1, by go_num, by omega, HBr.out⟩
              case measure => simp [intOf]; omega
            case neg =>
              have t1 : (ra == me) = false := by simp [hs]
              rw [decide_eq_false hs, if_neg (by simp)]
              clear hs
              go_wp2_with fail
              go_roundw
              case rel => exact ⟨i + 1, by go_num, by omega, HBr.out⟩
              case measure => simp [intOf]; omega
      case neg =>
        obtain ⟨y0, y1, y2, y3, y4, y5⟩ := HX3.out V0 HB.out
        go_wp2_with fail
        refine (HC9.out V0 (HU.out HB.out)).mono ?_
        rintro e w7 ⟨s2, rfl, hv2, hos, hb7⟩
        have HB7 : Hid (Below w3.heap.size w3 w7) := Lib.hid (HT3.out HB.out hb7)
        have HB0 : Hid (w3.heap.size ≤ V0.heap.size) := Lib.hid HB.out.size
        obtain ⟨B0, hB0⟩ : ∃ B0, B0 = V0.heap.size := ⟨_, rfl⟩
        have HB77 : Hid (B0 ≤ w7.heap.size) := Lib.hid (by rw [hB0]; exact hb7.size)
        rw [← hB0] at hos HB0
        have HSc := Lib.hid hos
        have HV := Lib.hid hv2
        clear hb7 hos hv2 hB0 y0 y1 y2 y3 y4 y5
        obtain ⟨xm, xos, ⟨E1, e1, f1⟩, xes, ⟨E2, e2, f2⟩, xq, xas, ⟨E3, e3, f3⟩, xgs, ⟨E4, e4, f4⟩⟩ := s2
        have HF2 : Hid (∀ i, FewS (spoil (ps.length : Int) s0.v i)) := Lib.hid (fun i => spoil_few HGd.out HG.out.few HFw.out i)
        have HNo : Hid (∀ i, ¬ GoodS ps (spoil (ps.length : Int) s0.v i)) := Lib.hid (fun i => spoil_bad HGd.out i)
        have HNs : Hid (∀ i, spoil (ps.length : Int) s0.v i ≠ s0.v) := Lib.hid (fun i => spoil_other HGd.out i)
        have K1 : Hid (xos.length = e1 ∧ xes.length = e2 ∧ xas.length = e3 ∧ xgs.length = e4) := Lib.hid ⟨HSc.out.os.row.rd.1, HSc.out.es.row.rd.1, HSc.out.as_.rd.1, HSc.out.gs.rd.1⟩
        have c1 : e1 ≤ f1 := HSc.out.os.row.rd.2.1
        have c2 : e2 ≤ f2 := HSc.out.es.row.rd.2.1
        have c3 : e3 ≤ f3 := HSc.out.as_.rd.2.1
        have c4 : e4 ≤ f4 := HSc.out.gs.rd.2.1
        have K2 : Hid (e1 ≤ 8 ∧ 1 ≤ e1 ∧ e2 ≤ 32 ∧ e3 ≤ 4 ∧ e4 ≤ 4 ∧ 0 ≤ xq ∧ xq ≤ 1099511627776) := Lib.hid (by
          have h := HGd.out
          rw [← HV.out] at h
          have h1 := h.many
          have h3 := h.an
          have h4 := h.gn
          have h5 := h.q
          have h2 := congrArg List.length h.ps_
          have h6 : (nbsI ps xm).length ≤ 32 := by
            unfold nbsI
            split
            · exact Nat.le_trans (nbs_len _ _ _) HG.out.few
            · simp
          have k := K1.out
          simp only [StL.v, List.length_map] at h1 h2 h3 h4 h5
          omega)
        have hq1 : xq ≤ 1099511627776 := K2.out.2.2.2.2.2.2
        have hq0 : 0 ≤ xq := K2.out.2.2.2.2.2.1
        have he1 : 0 < e1 := K2.out.2.1
        obtain ⟨z, hz7, hz⟩ := and7 sp
        have HLn : Hid ((n : Int) = (ps.length : Int)) := Lib.hid (by rw [HL.out])
        rcases (show z = 0 ∨ z = 1 ∨ z = 2 ∨ z = 3 ∨ z = 4 ∨ z = 5 ∨ z = 6 ∨ z = 7 by omega) with rfl | rfl | rfl | rfl | rfl | rfl | rfl | rfl
        · have hz' : bits .and .i64 sp 7 = 0 := hz
          clear hz hz7
          obtain ⟨V9, hV9⟩ : ∃ V9, V9 = w7.alloc (.cells #[.int .i64 (n : Int), .slice E1 e1 f1, .slice E2 e2 f2, .int .i64 xq, .slice E3 e3 f3, .slice E4 e4 f4] 30) := ⟨_, rfl⟩
          have hb79 : Below w7.heap.size w7 V9 := hV9 ▸ (Below.refl _ _).alloc (Nat.le_refl _) _
          have HB9 : Hid (Below w3.heap.size w3 V9) := Lib.hid (HT3.out HB7.out hb79)
          have hbk : Blk V9 w7.heap.size 30 #[.int .i64 (n : Int), .slice E1 e1 f1, .slice E2 e2 f2, .int .i64 xq, .slice E3 e3 f3, .slice E4 e4 f4] := by rw [hV9]; exact Blk.new w7 _ _
          have HP : Hid (OwnO V9 B0 (.slice E1 e1 f1) xos ∧ OwnE V9 B0 (.slice E2 e2 f2) xes ∧ akR.Own V9 B0 (.slice E3 e3 f3) xas ∧ fdR.Own V9 B0 (.slice E4 e4 f4) xgs) := Lib.hid (by have h := HSc.out.below hb79; exact ⟨h.os, h.es, h.as_, h.gs⟩)
          have HVx : Hid ((⟨(n : Int), xos, ⟨E1, e1, f1⟩, xes, ⟨E2, e2, f2⟩, xq, xas, ⟨E3, e3, f3⟩, xgs, ⟨E4, e4, f4⟩⟩ : StL).v = spoil (ps.length : Int) s0.v 0) := Lib.hid (by rw [← HV.out]; rw [← HLn.out]; rfl)
          have HIx : Hid (InS V9 (⟨(n : Int), xos, ⟨E1, e1, f1⟩, xes, ⟨E2, e2, f2⟩, xq, xas, ⟨E3, e3, f3⟩, xgs, ⟨E4, e4, f4⟩⟩ : StL)) := Lib.hid (in_parts HP.out.1 HP.out.2.1 HP.out.2.2.1 HP.out.2.2.2 (by rw [HVx.out]; exact HF2.out 0))
          have HBk : Hid (Blk V9 w7.heap.size 30 #[.int .i64 (n : Int), .slice E1 e1 f1, .slice E2 e2 f2, .int .i64 xq, .slice E3 e3 f3, .slice E4 e4 f4]) := Lib.hid hbk
          have hbx : w7.heap.size < V9.heap.size := HBk.out.lt
          have HBx := Lib.hid hbx
          obtain ⟨x0, x1, x2, x3, x4, x5⟩ : V9.cell? ⟨w7.heap.size, 0, none⟩ = some (.int .i64 (n : Int)) ∧ V9.cell? ⟨w7.heap.size, 1, none⟩ = some (.slice E1 e1 f1) ∧ V9.cell? ⟨w7.heap.size, 2, none⟩ = some (.slice E2 e2 f2) ∧ V9.cell? ⟨w7.heap.size, 3, none⟩ = some (.int .i64 xq) ∧ V9.cell? ⟨w7.heap.size, 4, none⟩ = some (.slice E3 e3 f3) ∧ V9.cell? ⟨w7.heap.size, 5, none⟩ = some (.slice E4 e4 f4) := ⟨hbk.cell 0, hbk.cell 1, hbk.cell 2, hbk.cell 3, hbk.cell 4, hbk.cell 5⟩
          have HG10 := Lib.hid (HGo.out T g ps (⟨(n : Int), xos, ⟨E1, e1, f1⟩, xes, ⟨E2, e2, f2⟩, xq, xas, ⟨E3, e3, f3⟩, xgs, ⟨E4, e4, f4⟩⟩ : StL) V9 (HT.out HB9.out) HG.out HIx.out)
          simp only [StL.val, Sl.val] at HG10
          have HV9 := Lib.hid hV9
          rw [hV9] at x0 x1 x2 x3 x4 x5
          clear hbk hV9 hbx hb79
          go_wp2_with fail
          rw [← HV9.out]
          clear x0 x1 x2 x3 x4 x5
          refine HG10.out.mono ?_
          rintro e wa ⟨b, rfl, hbb, hba⟩
          obtain rfl : b = false := by
            cases b
            · rfl
            · have := hbb.1 rfl
              rw [HVx.out] at this
              exact absurd this (HNo.out 0)
          have HBa : Hid (Below w3.heap.size w3 wa) := Lib.hid (HT3.out HB9.out hba)
          have HI10 := Lib.hid (HIx.out.next hba)
          have HK10 := Lib.hid (HBk.out.below hba HBx.out)
          clear hbb hba
          obtain ⟨y0, y1, y2, y3, y4, y5⟩ := HX3.out wa HBa.out
          go_wp2_with fail
          clear y0 y1 y2 y3 y4 y5
          refine (HG3.out wa HBa.out).mono ?_
          rintro e wb ⟨b, rfl, hbb, hbb3⟩
          obtain rfl : b = true := hbb.2 HGd.out
          have HBb : Hid (Below w3.heap.size w3 wb) := Lib.hid (HT3.out HBa.out hbb3)
          have HI11 := Lib.hid (HI10.out.next hbb3)
          have HK11 := Lib.hid (HK10.out.below hbb3 HK10.out.lt)
          clear hbb hbb3
          obtain ⟨y0, y1, y2, y3, y4, y5⟩ := HX3.out wb HBb.out
          obtain ⟨x0, x1, x2, x3, x4, x5⟩ : wb.cell? ⟨w7.heap.size, 0, none⟩ = some (.int .i64 (n : Int)) ∧ wb.cell? ⟨w7.heap.size, 1, none⟩ = some (.slice E1 e1 f1) ∧ wb.cell? ⟨w7.heap.size, 2, none⟩ = some (.slice E2 e2 f2) ∧ wb.cell? ⟨w7.heap.size, 3, none⟩ = some (.int .i64 xq) ∧ wb.cell? ⟨w7.heap.size, 4, none⟩ = some (.slice E3 e3 f3) ∧ wb.cell? ⟨w7.heap.size, 5, none⟩ = some (.slice E4 e4 f4) := ⟨HK11.out.cell 0, HK11.out.cell 1, HK11.out.cell 2, HK11.out.cell 3, HK11.out.cell 4, HK11.out.cell 5⟩
          have HS12 := Lib.hid (HS9.out (⟨(n : Int), xos, ⟨E1, e1, f1⟩, xes, ⟨E2, e2, f2⟩, xq, xas, ⟨E3, e3, f3⟩, xgs, ⟨E4, e4, f4⟩⟩ : StL) wb HI11.out (HU.out HBb.out))
          rw [HVx.out, decide_eq_false (HNs.out 0)] at HS12
          go_wp2_with fail
          clear y0 y1 y2 y3 y4 y5 x0 x1 x2 x3 x4 x5
          refine HS12.out.mono ?_
          rintro e wc ⟨rfl, hbc⟩
          have HBc := Lib.hid (HUw.out (HT3.out HBb.out hbc))
          clear hbc
          go_wp2_with fail
          go_ret
          exact ⟨rfl, HBc.out⟩
        · have hz' : bits .and .i64 sp 7 = 1 := hz
          clear hz hz7
          obtain ⟨V9, hV9⟩ : ∃ V9, V9 = w7.alloc (.cells #[.int .i64 xm, .slice none 0 0, .slice E2 e2 f2, .int .i64 xq, .slice E3 e3 f3, .slice E4 e4 f4] 30) := ⟨_, rfl⟩
          have hb79 : Below w7.heap.size w7 V9 := hV9 ▸ (Below.refl _ _).alloc (Nat.le_refl _) _
          have HB9 : Hid (Below w3.heap.size w3 V9) := Lib.hid (HT3.out HB7.out hb79)
          have hbk : Blk V9 w7.heap.size 30 #[.int .i64 xm, .slice none 0 0, .slice E2 e2 f2, .int .i64 xq, .slice E3 e3 f3, .slice E4 e4 f4] := by rw [hV9]; exact Blk.new w7 _ _
          have HP : Hid (OwnO V9 B0 (.slice none 0 0) [] ∧ OwnE V9 B0 (.slice E2 e2 f2) xes ∧ akR.Own V9 B0 (.slice E3 e3 f3) xas ∧ fdR.Own V9 B0 (.slice E4 e4 f4) xgs) := Lib.hid (by have h := HSc.out.below hb79; exact ⟨OwnO.none_ _ _, h.es, h.as_, h.gs⟩)
          have HVx : Hid ((⟨xm, [], ⟨none, 0, 0⟩, xes, ⟨E2, e2, f2⟩, xq, xas, ⟨E3, e3, f3⟩, xgs, ⟨E4, e4, f4⟩⟩ : StL).v = spoil (ps.length : Int) s0.v 1) := Lib.hid (by rw [← HV.out]; rfl)
          have HIx : Hid (InS V9 (⟨xm, [], ⟨none, 0, 0⟩, xes, ⟨E2, e2, f2⟩, xq, xas, ⟨E3, e3, f3⟩, xgs, ⟨E4, e4, f4⟩⟩ : StL)) := Lib.hid (in_parts HP.out.1 HP.out.2.1 HP.out.2.2.1 HP.out.2.2.2 (by rw [HVx.out]; exact HF2.out 1))
          have HBk : Hid (Blk V9 w7.heap.size 30 #[.int .i64 xm, .slice none 0 0, .slice E2 e2 f2, .int .i64 xq, .slice E3 e3 f3, .slice E4 e4 f4]) := Lib.hid hbk
          have hbx : w7.heap.size < V9.heap.size := HBk.out.lt
          have HBx := Lib.hid hbx
          obtain ⟨x0, x1, x2, x3, x4, x5⟩ : V9.cell? ⟨w7.heap.size, 0, none⟩ = some (.int .i64 xm) ∧ V9.cell? ⟨w7.heap.size, 1, none⟩ = some (.slice none 0 0) ∧ V9.cell? ⟨w7.heap.size, 2, none⟩ = some (.slice E2 e2 f2) ∧ V9.cell? ⟨w7.heap.size, 3, none⟩ = some (.int .i64 xq) ∧ V9.cell? ⟨w7.heap.size, 4, none⟩ = some (.slice E3 e3 f3) ∧ V9.cell? ⟨w7.heap.size, 5, none⟩ = some (.slice E4 e4 f4) := ⟨hbk.cell 0, hbk.cell 1, hbk.cell 2, hbk.cell 3, hbk.cell 4, hbk.cell 5⟩
          have HG10 := Lib.hid (HGo.out T g ps (⟨xm, [], ⟨none, 0, 0⟩, xes, ⟨E2, e2, f2⟩, xq, xas, ⟨E3, e3, f3⟩, xgs, ⟨E4, e4, f4⟩⟩ : StL) V9 (HT.out HB9.out) HG.out HIx.out)
          simp only [StL.val, Sl.val] at HG10
          have HV9 := Lib.hid hV9
          rw [hV9] at x0 x1 x2 x3 x4 x5
          clear hbk hV9 hbx hb79
          go_wp2_with fail
          rw [← HV9.out]
          clear x0 x1 x2 x3 x4 x5
          refine HG10.out.mono ?_
          rintro e wa ⟨b, rfl, hbb, hba⟩
          obtain rfl : b = false := by
            cases b
            · rfl
            · have := hbb.1 rfl
              rw [HVx.out] at this
              exact absurd this (HNo.out 1)
          have HBa : Hid (Below w3.heap.size w3 wa) := Lib.hid (HT3.out HB9.out hba)
          have HI10 := Lib.hid (HIx.out.next hba)
          have HK10 := Lib.hid (HBk.out.below hba HBx.out)
          clear hbb hba
          obtain ⟨y0, y1, y2, y3, y4, y5⟩ := HX3.out wa HBa.out
          go_wp2_with fail
          clear y0 y1 y2 y3 y4 y5
          refine (HG3.out wa HBa.out).mono ?_
          rintro e wb ⟨b, rfl, hbb, hbb3⟩
          obtain rfl : b = true := hbb.2 HGd.out
          have HBb : Hid (Below w3.heap.size w3 wb) := Lib.hid (HT3.out HBa.out hbb3)
          have HI11 := Lib.hid (HI10.out.next hbb3)
          have HK11 := Lib.hid (HK10.out.below hbb3 HK10.out.lt)
          clear hbb hbb3
          obtain ⟨y0, y1, y2, y3, y4, y5⟩ := HX3.out wb HBb.out
          obtain ⟨x0, x1, x2, x3, x4, x5⟩ : wb.cell? ⟨w7.heap.size, 0, none⟩ = some (.int .i64 xm) ∧ wb.cell? ⟨w7.heap.size, 1, none⟩ = some (.slice none 0 0) ∧ wb.cell? ⟨w7.heap.size, 2, none⟩ = some (.slice E2 e2 f2) ∧ wb.cell? ⟨w7.heap.size, 3, none⟩ = some (.int .i64 xq) ∧ wb.cell? ⟨w7.heap.size, 4, none⟩ = some (.slice E3 e3 f3) ∧ wb.cell? ⟨w7.heap.size, 5, none⟩ = some (.slice E4 e4 f4) := ⟨HK11.out.cell 0, HK11.out.cell 1, HK11.out.cell 2, HK11.out.cell 3, HK11.out.cell 4, HK11.out.cell 5⟩
          have HS12 := Lib.hid (HS9.out (⟨xm, [], ⟨none, 0, 0⟩, xes, ⟨E2, e2, f2⟩, xq, xas, ⟨E3, e3, f3⟩, xgs, ⟨E4, e4, f4⟩⟩ : StL) wb HI11.out (HU.out HBb.out))
          rw [HVx.out, decide_eq_false (HNs.out 1)] at HS12
          go_wp2_with fail
          clear y0 y1 y2 y3 y4 y5 x0 x1 x2 x3 x4 x5
          refine HS12.out.mono ?_
          rintro e wc ⟨rfl, hbc⟩
          have HBc := Lib.hid (HUw.out (HT3.out HBb.out hbc))
          clear hbc
          go_wp2_with fail
          go_ret
          exact ⟨rfl, HBc.out⟩
        · have hz' : bits .and .i64 sp 7 = 2 := hz
          clear hz hz7
          obtain ⟨x1, xr, hx1⟩ : ∃ x1 xr, xos = x1 :: xr := by
            cases e : xos with
            | nil => have := K1.out.1; rw [e] at this; simp at this; omega
            | cons a r => exact ⟨a, r, rfl⟩
          subst hx1
          obtain ⟨⟨oa, om, oc⟩, os1⟩ := x1
          obtain ⟨gr, rfl, hgB, hgl, hcc, hfr, hc⟩ := HSc.out.os.row.cell (show 0 < e1 from he1)
          have m0 : w7.cell? ⟨gr, 0, none⟩ = some (.int .i64 oa) := by have h := hc 0 _ rfl 0 _ rfl; simpa using h
          have m1 : w7.cell? ⟨gr, 1, none⟩ = some (.int .i64 om) := by have h := hc 0 _ rfl 1 _ rfl; simpa using h
          have l0 := hfr 0
          have l1 := hfr 1
          obtain ⟨Vs, hVs⟩ : ∃ Vs, Vs = w7.setCell ⟨gr, 0, none⟩ (.int .i64 (-1)) := ⟨_, rfl⟩
          have hrow : owR.Own Vs B0 (.slice (some ⟨gr, 0, none⟩) e1 f1) (⟨⟨-1, om, oc⟩, os1⟩ :: xr) := by
            have h := Row.Own.put1 (i := 0) (j := 0) (x := (⟨⟨oa, om, oc⟩, os1⟩ : OwL)) (x' := (⟨⟨-1, om, oc⟩, os1⟩ : OwL)) (u := .int .i64 (-1)) HSc.out.os.row rfl (by show 0 < 3; omega) rfl
            rw [hVs]
            simpa using h
          have hoth := HSc.out.but_o (V := Vs) (fun k hk hne => by rw [hVs]; exact setc_other _ _ _ _ _ (fun e2 => hne (by rw [e2]; exact (ownB_some hcc).symm)))
          have hss : Vs.heap.size = w7.heap.size := by rw [hVs, setc_size]
          obtain ⟨V9, hV9⟩ : ∃ V9, V9 = Vs.alloc (.cells #[.int .i64 xm, .slice (some ⟨gr, 0, none⟩) e1 f1, .slice E2 e2 f2, .int .i64 xq, .slice E3 e3 f3, .slice E4 e4 f4] 30) := ⟨_, rfl⟩
          have hbs9 : Below Vs.heap.size Vs V9 := hV9 ▸ (Below.refl _ _).alloc (Nat.le_refl _) _
          have HB9 : Hid (Below w3.heap.size w3 V9) := Lib.hid (by
            have h : Below w3.heap.size w3 Vs := by rw [hVs]; exact below_setc' HB7.out (Nat.le_trans HB0.out hgB) _ _
            exact h.trans (hbs9.mono h.size))
          have hbk : Blk V9 w7.heap.size 30 #[.int .i64 xm, .slice (some ⟨gr, 0, none⟩) e1 f1, .slice E2 e2 f2, .int .i64 xq, .slice E3 e3 f3, .slice E4 e4 f4] := by rw [hV9, ← hss]; exact Blk.new Vs _ _
          have HP : Hid (OwnO V9 B0 (.slice (some ⟨gr, 0, none⟩) e1 f1) (⟨⟨-1, om, oc⟩, os1⟩ :: xr) ∧ OwnE V9 B0 (.slice E2 e2 f2) xes ∧ akR.Own V9 B0 (.slice E3 e3 f3) xas ∧ fdR.Own V9 B0 (.slice E4 e4 f4) xgs) := Lib.hid (by
            have ho : OwnO Vs B0 (.slice (some ⟨gr, 0, none⟩) e1 f1) (⟨⟨-1, om, oc⟩, os1⟩ :: xr) := ⟨hrow, fun y hy => by
              rcases List.mem_cons.1 hy with rfl | hy
              · exact hoth.1 ⟨⟨oa, om, oc⟩, os1⟩ List.mem_cons_self
              · exact hoth.1 y (List.mem_cons_of_mem _ hy), HSc.out.os.apart⟩
            exact ⟨ho.below hbs9, hoth.2.1.below hbs9, hoth.2.2.1.below hbs9, hoth.2.2.2.below hbs9⟩)
          rw [hVs] at hV9
          have hgl2 := hgl
          clear hc hrow hoth hss hbs9 hVs hfr
          have HVx : Hid ((⟨xm, (⟨⟨-1, om, oc⟩, os1⟩ :: xr), ⟨some ⟨gr, 0, none⟩, e1, f1⟩, xes, ⟨E2, e2, f2⟩, xq, xas, ⟨E3, e3, f3⟩, xgs, ⟨E4, e4, f4⟩⟩ : StL).v = spoil (ps.length : Int) s0.v 2) := Lib.hid (by rw [← HV.out]; rfl)
          have HIx : Hid (InS V9 (⟨xm, (⟨⟨-1, om, oc⟩, os1⟩ :: xr), ⟨some ⟨gr, 0, none⟩, e1, f1⟩, xes, ⟨E2, e2, f2⟩, xq, xas, ⟨E3, e3, f3⟩, xgs, ⟨E4, e4, f4⟩⟩ : StL)) := Lib.hid (in_parts HP.out.1 HP.out.2.1 HP.out.2.2.1 HP.out.2.2.2 (by rw [HVx.out]; exact HF2.out 2))
          have HBk : Hid (Blk V9 w7.heap.size 30 #[.int .i64 xm, .slice (some ⟨gr, 0, none⟩) e1 f1, .slice E2 e2 f2, .int .i64 xq, .slice E3 e3 f3, .slice E4 e4 f4]) := Lib.hid hbk
          have hbx : w7.heap.size < V9.heap.size := HBk.out.lt
          have HBx := Lib.hid hbx
          obtain ⟨x0, x1, x2, x3, x4, x5⟩ : V9.cell? ⟨w7.heap.size, 0, none⟩ = some (.int .i64 xm) ∧ V9.cell? ⟨w7.heap.size, 1, none⟩ = some (.slice (some ⟨gr, 0, none⟩) e1 f1) ∧ V9.cell? ⟨w7.heap.size, 2, none⟩ = some (.slice E2 e2 f2) ∧ V9.cell? ⟨w7.heap.size, 3, none⟩ = some (.int .i64 xq) ∧ V9.cell? ⟨w7.heap.size, 4, none⟩ = some (.slice E3 e3 f3) ∧ V9.cell? ⟨w7.heap.size, 5, none⟩ = some (.slice E4 e4 f4) := ⟨hbk.cell 0, hbk.cell 1, hbk.cell 2, hbk.cell 3, hbk.cell 4, hbk.cell 5⟩
          have HG10 := Lib.hid (HGo.out T g ps (⟨xm, (⟨⟨-1, om, oc⟩, os1⟩ :: xr), ⟨some ⟨gr, 0, none⟩, e1, f1⟩, xes, ⟨E2, e2, f2⟩, xq, xas, ⟨E3, e3, f3⟩, xgs, ⟨E4, e4, f4⟩⟩ : StL) V9 (HT.out HB9.out) HG.out HIx.out)
          simp only [StL.val, Sl.val] at HG10
          have HV9 := Lib.hid hV9
          rw [hV9] at x0 x1 x2 x3 x4 x5
          clear hbk hV9 hbx hgB
          go_wp2_with fail
          rw [← HV9.out]
          clear x0 x1 x2 x3 x4 x5
          refine HG10.out.mono ?_
          rintro e wa ⟨b, rfl, hbb, hba⟩
          obtain rfl : b = false := by
            cases b
            · rfl
            · have := hbb.1 rfl
              rw [HVx.out] at this
              exact absurd this (HNo.out 2)
          have HBa : Hid (Below w3.heap.size w3 wa) := Lib.hid (HT3.out HB9.out hba)
          have HI10 := Lib.hid (HIx.out.next hba)
          have HK10 := Lib.hid (HBk.out.below hba HBx.out)
          clear hbb hba
          obtain ⟨y0, y1, y2, y3, y4, y5⟩ := HX3.out wa HBa.out
          go_wp2_with fail
          clear y0 y1 y2 y3 y4 y5
          refine (HG3.out wa HBa.out).mono ?_
          rintro e wb ⟨b, rfl, hbb, hbb3⟩
          obtain rfl : b = true := hbb.2 HGd.out
          have HBb : Hid (Below w3.heap.size w3 wb) := Lib.hid (HT3.out HBa.out hbb3)
          have HI11 := Lib.hid (HI10.out.next hbb3)
          have HK11 := Lib.hid (HK10.out.below hbb3 HK10.out.lt)
          clear hbb hbb3
          obtain ⟨y0, y1, y2, y3, y4, y5⟩ := HX3.out wb HBb.out
          obtain ⟨x0, x1, x2, x3, x4, x5⟩ : wb.cell? ⟨w7.heap.size, 0, none⟩ = some (.int .i64 xm) ∧ wb.cell? ⟨w7.heap.size, 1, none⟩ = some (.slice (some ⟨gr, 0, none⟩) e1 f1) ∧ wb.cell? ⟨w7.heap.size, 2, none⟩ = some (.slice E2 e2 f2) ∧ wb.cell? ⟨w7.heap.size, 3, none⟩ = some (.int .i64 xq) ∧ wb.cell? ⟨w7.heap.size, 4, none⟩ = some (.slice E3 e3 f3) ∧ wb.cell? ⟨w7.heap.size, 5, none⟩ = some (.slice E4 e4 f4) := ⟨HK11.out.cell 0, HK11.out.cell 1, HK11.out.cell 2, HK11.out.cell 3, HK11.out.cell 4, HK11.out.cell 5⟩
          have HS12 := Lib.hid (HS9.out (⟨xm, (⟨⟨-1, om, oc⟩, os1⟩ :: xr), ⟨some ⟨gr, 0, none⟩, e1, f1⟩, xes, ⟨E2, e2, f2⟩, xq, xas, ⟨E3, e3, f3⟩, xgs, ⟨E4, e4, f4⟩⟩ : StL) wb HI11.out (HU.out HBb.out))
          rw [HVx.out, decide_eq_false (HNs.out 2)] at HS12
          go_wp2_with fail
          clear y0 y1 y2 y3 y4 y5 x0 x1 x2 x3 x4 x5
          refine HS12.out.mono ?_
          rintro e wc ⟨rfl, hbc⟩
          have HBc := Lib.hid (HUw.out (HT3.out HBb.out hbc))
          clear hbc
          go_wp2_with fail
          go_ret
          exact ⟨rfl, HBc.out⟩
        · have hz' : bits .and .i64 sp 7 = 3 := hz
          clear hz hz7
          obtain ⟨x1, xr, hx1⟩ : ∃ x1 xr, xos = x1 :: xr := by
            cases e : xos with
            | nil => have := K1.out.1; rw [e] at this; simp at this; omega
            | cons a r => exact ⟨a, r, rfl⟩
          subst hx1
          obtain ⟨⟨oa, om, oc⟩, os1⟩ := x1
          obtain ⟨gr, rfl, hgB, hgl, hcc, hfr, hc⟩ := HSc.out.os.row.cell (show 0 < e1 from he1)
          have m0 : w7.cell? ⟨gr, 0, none⟩ = some (.int .i64 oa) := by have h := hc 0 _ rfl 0 _ rfl; simpa using h
          have m1 : w7.cell? ⟨gr, 1, none⟩ = some (.int .i64 om) := by have h := hc 0 _ rfl 1 _ rfl; simpa using h
          have l0 := hfr 0
          have l1 := hfr 1
          obtain ⟨Vs, hVs⟩ : ∃ Vs, Vs = w7.setCell ⟨gr, 1, none⟩ (.int .i64 1099511627777) := ⟨_, rfl⟩
          have hrow : owR.Own Vs B0 (.slice (some ⟨gr, 0, none⟩) e1 f1) (⟨⟨oa, 1099511627777, oc⟩, os1⟩ :: xr) := by
            have h := Row.Own.put1 (i := 0) (j := 1) (x := (⟨⟨oa, om, oc⟩, os1⟩ : OwL)) (x' := (⟨⟨oa, 1099511627777, oc⟩, os1⟩ : OwL)) (u := .int .i64 1099511627777) HSc.out.os.row rfl (by show 1 < 3; omega) rfl
            rw [hVs]
            simpa using h
          have hoth := HSc.out.but_o (V := Vs) (fun k hk hne => by rw [hVs]; exact setc_other _ _ _ _ _ (fun e2 => hne (by rw [e2]; exact (ownB_some hcc).symm)))
          have hss : Vs.heap.size = w7.heap.size := by rw [hVs, setc_size]
          obtain ⟨V9, hV9⟩ : ∃ V9, V9 = Vs.alloc (.cells #[.int .i64 xm, .slice (some ⟨gr, 0, none⟩) e1 f1, .slice E2 e2 f2, .int .i64 xq, .slice E3 e3 f3, .slice E4 e4 f4] 30) := ⟨_, rfl⟩
          have hbs9 : Below Vs.heap.size Vs V9 := hV9 ▸ (Below.refl _ _).alloc (Nat.le_refl _) _
          have HB9 : Hid (Below w3.heap.size w3 V9) := Lib.hid (by
            have h : Below w3.heap.size w3 Vs := by rw [hVs]; exact below_setc' HB7.out (Nat.le_trans HB0.out hgB) _ _
            exact h.trans (hbs9.mono h.size))
          have hbk : Blk V9 w7.heap.size 30 #[.int .i64 xm, .slice (some ⟨gr, 0, none⟩) e1 f1, .slice E2 e2 f2, .int .i64 xq, .slice E3 e3 f3, .slice E4 e4 f4] := by rw [hV9, ← hss]; exact Blk.new Vs _ _
          have HP : Hid (OwnO V9 B0 (.slice (some ⟨gr, 0, none⟩) e1 f1) (⟨⟨oa, 1099511627777, oc⟩, os1⟩ :: xr) ∧ OwnE V9 B0 (.slice E2 e2 f2) xes ∧ akR.Own V9 B0 (.slice E3 e3 f3) xas ∧ fdR.Own V9 B0 (.slice E4 e4 f4) xgs) := Lib.hid (by
            have ho : OwnO Vs B0 (.slice (some ⟨gr, 0, none⟩) e1 f1) (⟨⟨oa, 1099511627777, oc⟩, os1⟩ :: xr) := ⟨hrow, fun y hy => by
              rcases List.mem_cons.1 hy with rfl | hy
              · exact hoth.1 ⟨⟨oa, om, oc⟩, os1⟩ List.mem_cons_self
              · exact hoth.1 y (List.mem_cons_of_mem _ hy), HSc.out.os.apart⟩
            exact ⟨ho.below hbs9, hoth.2.1.below hbs9, hoth.2.2.1.below hbs9, hoth.2.2.2.below hbs9⟩)
          rw [hVs] at hV9
          have hgl2 := hgl
          clear hc hrow hoth hss hbs9 hVs hfr
          have HVx : Hid ((⟨xm, (⟨⟨oa, 1099511627777, oc⟩, os1⟩ :: xr), ⟨some ⟨gr, 0, none⟩, e1, f1⟩, xes, ⟨E2, e2, f2⟩, xq, xas, ⟨E3, e3, f3⟩, xgs, ⟨E4, e4, f4⟩⟩ : StL).v = spoil (ps.length : Int) s0.v 3) := Lib.hid (by rw [← HV.out]; rfl)
          have HIx : Hid (InS V9 (⟨xm, (⟨⟨oa, 1099511627777, oc⟩, os1⟩ :: xr), ⟨some ⟨gr, 0, none⟩, e1, f1⟩, xes, ⟨E2, e2, f2⟩, xq, xas, ⟨E3, e3, f3⟩, xgs, ⟨E4, e4, f4⟩⟩ : StL)) := Lib.hid (in_parts HP.out.1 HP.out.2.1 HP.out.2.2.1 HP.out.2.2.2 (by rw [HVx.out]; exact HF2.out 3))
          have HBk : Hid (Blk V9 w7.heap.size 30 #[.int .i64 xm, .slice (some ⟨gr, 0, none⟩) e1 f1, .slice E2 e2 f2, .int .i64 xq, .slice E3 e3 f3, .slice E4 e4 f4]) := Lib.hid hbk
          have hbx : w7.heap.size < V9.heap.size := HBk.out.lt
          have HBx := Lib.hid hbx
          obtain ⟨x0, x1, x2, x3, x4, x5⟩ : V9.cell? ⟨w7.heap.size, 0, none⟩ = some (.int .i64 xm) ∧ V9.cell? ⟨w7.heap.size, 1, none⟩ = some (.slice (some ⟨gr, 0, none⟩) e1 f1) ∧ V9.cell? ⟨w7.heap.size, 2, none⟩ = some (.slice E2 e2 f2) ∧ V9.cell? ⟨w7.heap.size, 3, none⟩ = some (.int .i64 xq) ∧ V9.cell? ⟨w7.heap.size, 4, none⟩ = some (.slice E3 e3 f3) ∧ V9.cell? ⟨w7.heap.size, 5, none⟩ = some (.slice E4 e4 f4) := ⟨hbk.cell 0, hbk.cell 1, hbk.cell 2, hbk.cell 3, hbk.cell 4, hbk.cell 5⟩
          have HG10 := Lib.hid (HGo.out T g ps (⟨xm, (⟨⟨oa, 1099511627777, oc⟩, os1⟩ :: xr), ⟨some ⟨gr, 0, none⟩, e1, f1⟩, xes, ⟨E2, e2, f2⟩, xq, xas, ⟨E3, e3, f3⟩, xgs, ⟨E4, e4, f4⟩⟩ : StL) V9 (HT.out HB9.out) HG.out HIx.out)
          simp only [StL.val, Sl.val] at HG10
          have HV9 := Lib.hid hV9
          rw [hV9] at x0 x1 x2 x3 x4 x5
          clear hbk hV9 hbx hgB
          go_wp2_with fail
          rw [← HV9.out]
          clear x0 x1 x2 x3 x4 x5
          refine HG10.out.mono ?_
          rintro e wa ⟨b, rfl, hbb, hba⟩
          obtain rfl : b = false := by
            cases b
            · rfl
            · have := hbb.1 rfl
              rw [HVx.out] at this
              exact absurd this (HNo.out 3)
          have HBa : Hid (Below w3.heap.size w3 wa) := Lib.hid (HT3.out HB9.out hba)
          have HI10 := Lib.hid (HIx.out.next hba)
          have HK10 := Lib.hid (HBk.out.below hba HBx.out)
          clear hbb hba
          obtain ⟨y0, y1, y2, y3, y4, y5⟩ := HX3.out wa HBa.out
          go_wp2_with fail
          clear y0 y1 y2 y3 y4 y5
          refine (HG3.out wa HBa.out).mono ?_
          rintro e wb ⟨b, rfl, hbb, hbb3⟩
          obtain rfl : b = true := hbb.2 HGd.out
          have HBb : Hid (Below w3.heap.size w3 wb) := Lib.hid (HT3.out HBa.out hbb3)
          have HI11 := Lib.hid (HI10.out.next hbb3)
          have HK11 := Lib.hid (HK10.out.below hbb3 HK10.out.lt)
          clear hbb hbb3
          obtain ⟨y0, y1, y2, y3, y4, y5⟩ := HX3.out wb HBb.out
          obtain ⟨x0, x1, x2, x3, x4, x5⟩ : wb.cell? ⟨w7.heap.size, 0, none⟩ = some (.int .i64 xm) ∧ wb.cell? ⟨w7.heap.size, 1, none⟩ = some (.slice (some ⟨gr, 0, none⟩) e1 f1) ∧ wb.cell? ⟨w7.heap.size, 2, none⟩ = some (.slice E2 e2 f2) ∧ wb.cell? ⟨w7.heap.size, 3, none⟩ = some (.int .i64 xq) ∧ wb.cell? ⟨w7.heap.size, 4, none⟩ = some (.slice E3 e3 f3) ∧ wb.cell? ⟨w7.heap.size, 5, none⟩ = some (.slice E4 e4 f4) := ⟨HK11.out.cell 0, HK11.out.cell 1, HK11.out.cell 2, HK11.out.cell 3, HK11.out.cell 4, HK11.out.cell 5⟩
          have HS12 := Lib.hid (HS9.out (⟨xm, (⟨⟨oa, 1099511627777, oc⟩, os1⟩ :: xr), ⟨some ⟨gr, 0, none⟩, e1, f1⟩, xes, ⟨E2, e2, f2⟩, xq, xas, ⟨E3, e3, f3⟩, xgs, ⟨E4, e4, f4⟩⟩ : StL) wb HI11.out (HU.out HBb.out))
          rw [HVx.out, decide_eq_false (HNs.out 3)] at HS12
          go_wp2_with fail
          clear y0 y1 y2 y3 y4 y5 x0 x1 x2 x3 x4 x5
          refine HS12.out.mono ?_
          rintro e wc ⟨rfl, hbc⟩
          have HBc := Lib.hid (HUw.out (HT3.out HBb.out hbc))
          clear hbc
          go_wp2_with fail
          go_ret
          exact ⟨rfl, HBc.out⟩
        · have hz' : bits .and .i64 sp 7 = 4 := hz
          clear hz hz7
          obtain ⟨V9, hV9⟩ : ∃ V9, V9 = w7.alloc (.cells #[.int .i64 xm, .slice E1 e1 f1, .slice E2 e2 f2, .int .i64 (-1), .slice E3 e3 f3, .slice E4 e4 f4] 30) := ⟨_, rfl⟩
          have hb79 : Below w7.heap.size w7 V9 := hV9 ▸ (Below.refl _ _).alloc (Nat.le_refl _) _
          have HB9 : Hid (Below w3.heap.size w3 V9) := Lib.hid (HT3.out HB7.out hb79)
          have hbk : Blk V9 w7.heap.size 30 #[.int .i64 xm, .slice E1 e1 f1, .slice E2 e2 f2, .int .i64 (-1), .slice E3 e3 f3, .slice E4 e4 f4] := by rw [hV9]; exact Blk.new w7 _ _
          have HP : Hid (OwnO V9 B0 (.slice E1 e1 f1) xos ∧ OwnE V9 B0 (.slice E2 e2 f2) xes ∧ akR.Own V9 B0 (.slice E3 e3 f3) xas ∧ fdR.Own V9 B0 (.slice E4 e4 f4) xgs) := Lib.hid (by have h := HSc.out.below hb79; exact ⟨h.os, h.es, h.as_, h.gs⟩)
          have HVx : Hid ((⟨xm, xos, ⟨E1, e1, f1⟩, xes, ⟨E2, e2, f2⟩, (-1), xas, ⟨E3, e3, f3⟩, xgs, ⟨E4, e4, f4⟩⟩ : StL).v = spoil (ps.length : Int) s0.v 4) := Lib.hid (by rw [← HV.out]; rfl)
          have HIx : Hid (InS V9 (⟨xm, xos, ⟨E1, e1, f1⟩, xes, ⟨E2, e2, f2⟩, (-1), xas, ⟨E3, e3, f3⟩, xgs, ⟨E4, e4, f4⟩⟩ : StL)) := Lib.hid (in_parts HP.out.1 HP.out.2.1 HP.out.2.2.1 HP.out.2.2.2 (by rw [HVx.out]; exact HF2.out 4))
          have HBk : Hid (Blk V9 w7.heap.size 30 #[.int .i64 xm, .slice E1 e1 f1, .slice E2 e2 f2, .int .i64 (-1), .slice E3 e3 f3, .slice E4 e4 f4]) := Lib.hid hbk
          have hbx : w7.heap.size < V9.heap.size := HBk.out.lt
          have HBx := Lib.hid hbx
          obtain ⟨x0, x1, x2, x3, x4, x5⟩ : V9.cell? ⟨w7.heap.size, 0, none⟩ = some (.int .i64 xm) ∧ V9.cell? ⟨w7.heap.size, 1, none⟩ = some (.slice E1 e1 f1) ∧ V9.cell? ⟨w7.heap.size, 2, none⟩ = some (.slice E2 e2 f2) ∧ V9.cell? ⟨w7.heap.size, 3, none⟩ = some (.int .i64 (-1)) ∧ V9.cell? ⟨w7.heap.size, 4, none⟩ = some (.slice E3 e3 f3) ∧ V9.cell? ⟨w7.heap.size, 5, none⟩ = some (.slice E4 e4 f4) := ⟨hbk.cell 0, hbk.cell 1, hbk.cell 2, hbk.cell 3, hbk.cell 4, hbk.cell 5⟩
          have HG10 := Lib.hid (HGo.out T g ps (⟨xm, xos, ⟨E1, e1, f1⟩, xes, ⟨E2, e2, f2⟩, (-1), xas, ⟨E3, e3, f3⟩, xgs, ⟨E4, e4, f4⟩⟩ : StL) V9 (HT.out HB9.out) HG.out HIx.out)
          simp only [StL.val, Sl.val] at HG10
          have HV9 := Lib.hid hV9
          rw [hV9] at x0 x1 x2 x3 x4 x5
          clear hbk hV9 hbx hb79
          go_wp2_with fail
          rw [← HV9.out]
          clear x0 x1 x2 x3 x4 x5
          refine HG10.out.mono ?_
          rintro e wa ⟨b, rfl, hbb, hba⟩
          obtain rfl : b = false := by
            cases b
            · rfl
            · have := hbb.1 rfl
              rw [HVx.out] at this
              exact absurd this (HNo.out 4)
          have HBa : Hid (Below w3.heap.size w3 wa) := Lib.hid (HT3.out HB9.out hba)
          have HI10 := Lib.hid (HIx.out.next hba)
          have HK10 := Lib.hid (HBk.out.below hba HBx.out)
          clear hbb hba
          obtain ⟨y0, y1, y2, y3, y4, y5⟩ := HX3.out wa HBa.out
          go_wp2_with fail
          clear y0 y1 y2 y3 y4 y5
          refine (HG3.out wa HBa.out).mono ?_
          rintro e wb ⟨b, rfl, hbb, hbb3⟩
          obtain rfl : b = true := hbb.2 HGd.out
          have HBb : Hid (Below w3.heap.size w3 wb) := Lib.hid (HT3.out HBa.out hbb3)
          have HI11 := Lib.hid (HI10.out.next hbb3)
          have HK11 := Lib.hid (HK10.out.below hbb3 HK10.out.lt)
          clear hbb hbb3
          obtain ⟨y0, y1, y2, y3, y4, y5⟩ := HX3.out wb HBb.out
          obtain ⟨x0, x1, x2, x3, x4, x5⟩ : wb.cell? ⟨w7.heap.size, 0, none⟩ = some (.int .i64 xm) ∧ wb.cell? ⟨w7.heap.size, 1, none⟩ = some (.slice E1 e1 f1) ∧ wb.cell? ⟨w7.heap.size, 2, none⟩ = some (.slice E2 e2 f2) ∧ wb.cell? ⟨w7.heap.size, 3, none⟩ = some (.int .i64 (-1)) ∧ wb.cell? ⟨w7.heap.size, 4, none⟩ = some (.slice E3 e3 f3) ∧ wb.cell? ⟨w7.heap.size, 5, none⟩ = some (.slice E4 e4 f4) := ⟨HK11.out.cell 0, HK11.out.cell 1, HK11.out.cell 2, HK11.out.cell 3, HK11.out.cell 4, HK11.out.cell 5⟩
          have HS12 := Lib.hid (HS9.out (⟨xm, xos, ⟨E1, e1, f1⟩, xes, ⟨E2, e2, f2⟩, (-1), xas, ⟨E3, e3, f3⟩, xgs, ⟨E4, e4, f4⟩⟩ : StL) wb HI11.out (HU.out HBb.out))
          rw [HVx.out, decide_eq_false (HNs.out 4)] at HS12
          go_wp2_with fail
          clear y0 y1 y2 y3 y4 y5 x0 x1 x2 x3 x4 x5
          refine HS12.out.mono ?_
          rintro e wc ⟨rfl, hbc⟩
          have HBc := Lib.hid (HUw.out (HT3.out HBb.out hbc))
          clear hbc
          go_wp2_with fail
          go_ret
          exact ⟨rfl, HBc.out⟩
        · have hz' : bits .and .i64 sp 7 = 5 := hz
          clear hz hz7
          obtain ⟨Vb, hVb⟩ : ∃ Vb, Vb = w7.alloc (.cells #[.int .i64 xm, .slice E1 e1 f1, .slice E2 e2 f2, .int .i64 xq, .slice E3 e3 f3, .slice E4 e4 f4] 30) := ⟨_, rfl⟩
          obtain ⟨Vn, hVn⟩ : ∃ Vn, Vn = Vb.alloc (.cells #[.int .i64 0, .int .i64 0, .slice none 0 0, .int .i64 0] 60) := ⟨_, rfl⟩
          have hsb : Vb.heap.size = w7.heap.size + 1 := by rw [hVb, World.size_alloc]
          have HSb := Lib.hid hsb
          have HVb := Lib.hid hVb
          have HVn := Lib.hid hVn
          have hbn : Below w7.heap.size w7 Vn := by rw [hVn, hVb]; exact ((Below.refl _ _).alloc (Nat.le_refl _) _).alloc (by rw [World.size_alloc]; omega) _
          have HBn := Lib.hid hbn
          have HB07 : Hid (B0 ≤ w7.heap.size) := Lib.hid (by have h1 := HB77.out; omega)
          clear hVb hVn hsb hbn
          go_wp2_with (at_builtin; rw [← HVb.out, ← HVn.out]; refine Row.app sdR Vn rfl (.tmp 107) (.tmp 109) rfl B0 (.slice E2 e2 f2) xes rfl (HSc.out.es.row.below HBn.out) (w7.heap.size + 1 + 1) (some ⟨w7.heap.size + 1, 0, none⟩) 1 [⟨⟨0, 0, [], 0⟩, ⟨none, 0, 0⟩⟩] 1 rfl (by { have h := Row.reads_new sdR Vb #[.int .i64 0, .int .i64 0, .slice none 0 0, .int .i64 0] 60 [⟨⟨0, 0, [], 0⟩, ⟨none, 0, 0⟩⟩] rfl; rw [HSb.out, ← HVn.out] at h; exact h }) (by { have h1 := K1.out; have h2 := K2.out; show (xes.length + 1) * 48 ≤ _; omega }) (by { have h1 := HBn.out.size; have h2 := HB07.out; omega }) ?_; intro v8 V8 ho8 hg8 hl8; obtain ⟨A8, c8, e8⟩ := ho8.slk (k := e2 + 1) (by { have h2 := K1.out; simp; omega }); subst e8; have HL := Lib.hid (app_e (j := 2) HSc.out HB07.out HVb.out HVn.out ho8 hg8 hl8); have j1 := Blk.cell HL.out.1 2; have j2 := Blk.frozen HL.out.1 2; obtain ⟨V9, hV9⟩ : ∃ V9, V9 = V8.setCell ⟨w7.heap.size, 2, none⟩ (.slice A8 (e2 + 1) c8) := ⟨_, rfl⟩; have HV9 := Lib.hid hV9; have HBk := Lib.hid (Blk.set HL.out.1 2 (.slice A8 (e2 + 1) c8)); have x0 := Blk.cell HBk.out 0; have x1 := Blk.cell HBk.out 1; have x2 := Blk.cell HBk.out 2; have x3 := Blk.cell HBk.out 3; have x4 := Blk.cell HBk.out 4; have x5 := Blk.cell HBk.out 5; simp only [List.setIfInBounds_toArray] at x0 x1 x2 x3 x4 x5; clear hV9 ho8 hg8 hl8)
          have hq := HL.out.2
          rw [← HV9.out] at hq HBk
          have hbk : Blk V9 w7.heap.size 30 #[.int .i64 xm, .slice E1 e1 f1, .slice A8 (e2 + 1) c8, .int .i64 xq, .slice E3 e3 f3, .slice E4 e4 f4] := HBk.out
          have HB9 : Hid (Below w3.heap.size w3 V9) := Lib.hid (hq.1 HB0.out (Nat.le_refl _) HB7.out)
          have HP : Hid (OwnO V9 B0 (.slice E1 e1 f1) xos ∧ OwnE V9 B0 (.slice A8 (e2 + 1) c8) (xes ++ [⟨⟨0, 0, [], 0⟩, ⟨none, 0, 0⟩⟩]) ∧ akR.Own V9 B0 (.slice E3 e3 f3) xas ∧ fdR.Own V9 B0 (.slice E4 e4 f4) xgs) := Lib.hid hq.2
          clear hq HBk j1 j2
          have HVx : Hid ((⟨xm, xos, ⟨E1, e1, f1⟩, (xes ++ [⟨⟨0, 0, [], 0⟩, ⟨none, 0, 0⟩⟩]), ⟨A8, e2 + 1, c8⟩, xq, xas, ⟨E3, e3, f3⟩, xgs, ⟨E4, e4, f4⟩⟩ : StL).v = spoil (ps.length : Int) s0.v 5) := Lib.hid (by rw [← HV.out]; simp [StL.v, spoil])
          have HIx : Hid (InS V9 (⟨xm, xos, ⟨E1, e1, f1⟩, (xes ++ [⟨⟨0, 0, [], 0⟩, ⟨none, 0, 0⟩⟩]), ⟨A8, e2 + 1, c8⟩, xq, xas, ⟨E3, e3, f3⟩, xgs, ⟨E4, e4, f4⟩⟩ : StL)) := Lib.hid (in_parts HP.out.1 HP.out.2.1 HP.out.2.2.1 HP.out.2.2.2 (by rw [HVx.out]; exact HF2.out 5))
          have HBk : Hid (Blk V9 w7.heap.size 30 #[.int .i64 xm, .slice E1 e1 f1, .slice A8 (e2 + 1) c8, .int .i64 xq, .slice E3 e3 f3, .slice E4 e4 f4]) := Lib.hid hbk
          have hbx : w7.heap.size < V9.heap.size := HBk.out.lt
          have HBx := Lib.hid hbx
          have HG10 := Lib.hid (HGo.out T g ps (⟨xm, xos, ⟨E1, e1, f1⟩, (xes ++ [⟨⟨0, 0, [], 0⟩, ⟨none, 0, 0⟩⟩]), ⟨A8, e2 + 1, c8⟩, xq, xas, ⟨E3, e3, f3⟩, xgs, ⟨E4, e4, f4⟩⟩ : StL) V9 (HT.out HB9.out) HG.out HIx.out)
          simp only [StL.val, Sl.val] at HG10
          clear hbk hbx
          rw [← HV9.out]
          clear x0 x1 x2 x3 x4 x5
          refine HG10.out.mono ?_
          rintro e wa ⟨b, rfl, hbb, hba⟩
          obtain rfl : b = false := by
            cases b
            · rfl
            · have := hbb.1 rfl
              rw [HVx.out] at this
              exact absurd this (HNo.out 5)
          have HBa : Hid (Below w3.heap.size w3 wa) := Lib.hid (HT3.out HB9.out hba)
          have HI10 := Lib.hid (HIx.out.next hba)
          have HK10 := Lib.hid (HBk.out.below hba HBx.out)
          clear hbb hba
          obtain ⟨y0, y1, y2, y3, y4, y5⟩ := HX3.out wa HBa.out
          go_wp2_with fail
          clear y0 y1 y2 y3 y4 y5
          refine (HG3.out wa HBa.out).mono ?_
          rintro e wb ⟨b, rfl, hbb, hbb3⟩
          obtain rfl : b = true := hbb.2 HGd.out
          have HBb : Hid (Below w3.heap.size w3 wb) := Lib.hid (HT3.out HBa.out hbb3)
          have HI11 := Lib.hid (HI10.out.next hbb3)
          have HK11 := Lib.hid (HK10.out.below hbb3 HK10.out.lt)
          clear hbb hbb3
          obtain ⟨y0, y1, y2, y3, y4, y5⟩ := HX3.out wb HBb.out
          obtain ⟨x0, x1, x2, x3, x4, x5⟩ : wb.cell? ⟨w7.heap.size, 0, none⟩ = some (.int .i64 xm) ∧ wb.cell? ⟨w7.heap.size, 1, none⟩ = some (.slice E1 e1 f1) ∧ wb.cell? ⟨w7.heap.size, 2, none⟩ = some (.slice A8 (e2 + 1) c8) ∧ wb.cell? ⟨w7.heap.size, 3, none⟩ = some (.int .i64 xq) ∧ wb.cell? ⟨w7.heap.size, 4, none⟩ = some (.slice E3 e3 f3) ∧ wb.cell? ⟨w7.heap.size, 5, none⟩ = some (.slice E4 e4 f4) := ⟨HK11.out.cell 0, HK11.out.cell 1, HK11.out.cell 2, HK11.out.cell 3, HK11.out.cell 4, HK11.out.cell 5⟩
          have HS12 := Lib.hid (HS9.out (⟨xm, xos, ⟨E1, e1, f1⟩, (xes ++ [⟨⟨0, 0, [], 0⟩, ⟨none, 0, 0⟩⟩]), ⟨A8, e2 + 1, c8⟩, xq, xas, ⟨E3, e3, f3⟩, xgs, ⟨E4, e4, f4⟩⟩ : StL) wb HI11.out (HU.out HBb.out))
          rw [HVx.out, decide_eq_false (HNs.out 5)] at HS12
          go_wp2_with fail
          clear y0 y1 y2 y3 y4 y5 x0 x1 x2 x3 x4 x5
          refine HS12.out.mono ?_
          rintro e wc ⟨rfl, hbc⟩
          have HBc := Lib.hid (HUw.out (HT3.out HBb.out hbc))
          clear hbc
          go_wp2_with fail
          go_ret
          exact ⟨rfl, HBc.out⟩
        · have hz' : bits .and .i64 sp 7 = 6 := hz
          clear hz hz7
          obtain ⟨q2, hq2⟩ : ∃ q2, q2 = xq + 1 := ⟨_, rfl⟩
          have HQ2 := Lib.hid hq2
          have kw : IntKind.i64.wrap (xq + 1) = q2 := by rw [hq2]; exact IntWalk.i64_in _ ⟨by omega, by omega⟩
          clear hq2
          obtain ⟨Vb, hVb⟩ : ∃ Vb, Vb = w7.alloc (.cells #[.int .i64 xm, .slice E1 e1 f1, .slice E2 e2 f2, .int .i64 xq, .slice E3 e3 f3, .slice E4 e4 f4] 30) := ⟨_, rfl⟩
          obtain ⟨Vn, hVn⟩ : ∃ Vn, Vn = Vb.alloc (.cells #[.int .i64 0, .int .i64 q2, .int .i64 0] 62) := ⟨_, rfl⟩
          have hsb : Vb.heap.size = w7.heap.size + 1 := by rw [hVb, World.size_alloc]
          have HSb := Lib.hid hsb
          have HVb := Lib.hid hVb
          have HVn := Lib.hid hVn
          have hbn : Below w7.heap.size w7 Vn := by rw [hVn, hVb]; exact ((Below.refl _ _).alloc (Nat.le_refl _) _).alloc (by rw [World.size_alloc]; omega) _
          have HBn := Lib.hid hbn
          have HB07 : Hid (B0 ≤ w7.heap.size) := Lib.hid (by have h1 := HB77.out; omega)
          clear hVb hVn hsb hbn
          go_wp2_with (at_builtin; rw [← HVb.out, ← HVn.out]; refine Row.app fdR Vn rfl (.tmp 115) (.tmp 120) rfl B0 (.slice E4 e4 f4) xgs rfl (HSc.out.gs.below HBn.out) (w7.heap.size + 1 + 1) (some ⟨w7.heap.size + 1, 0, none⟩) 1 [⟨0, q2, 0⟩] 1 rfl (by { have h := Row.reads_new fdR Vb #[.int .i64 0, .int .i64 q2, .int .i64 0] 62 [⟨0, q2, 0⟩] rfl; rw [HSb.out, ← HVn.out] at h; exact h }) (by { have h1 := K1.out; have h2 := K2.out; show (xgs.length + 1) * 24 ≤ _; omega }) (by { have h1 := HBn.out.size; have h2 := HB07.out; omega }) ?_; intro v8 V8 ho8 hg8 hl8; obtain ⟨A8, c8, e8⟩ := ho8.slk (k := e4 + 1) (by { have h2 := K1.out; simp; omega }); subst e8; have HL := Lib.hid (app_g (j := 5) HSc.out HVb.out HVn.out ho8 hg8 hl8); have j1 := Blk.cell HL.out.1 5; have j2 := Blk.frozen HL.out.1 5; obtain ⟨V9, hV9⟩ : ∃ V9, V9 = V8.setCell ⟨w7.heap.size, 5, none⟩ (.slice A8 (e4 + 1) c8) := ⟨_, rfl⟩; have HV9 := Lib.hid hV9; have HBk := Lib.hid (Blk.set HL.out.1 5 (.slice A8 (e4 + 1) c8)); have x0 := Blk.cell HBk.out 0; have x1 := Blk.cell HBk.out 1; have x2 := Blk.cell HBk.out 2; have x3 := Blk.cell HBk.out 3; have x4 := Blk.cell HBk.out 4; have x5 := Blk.cell HBk.out 5; simp only [List.setIfInBounds_toArray] at x0 x1 x2 x3 x4 x5; clear hV9 ho8 hg8 hl8)
          have hq := HL.out.2
          rw [← HV9.out] at hq HBk
          have hbk : Blk V9 w7.heap.size 30 #[.int .i64 xm, .slice E1 e1 f1, .slice E2 e2 f2, .int .i64 xq, .slice E3 e3 f3, .slice A8 (e4 + 1) c8] := HBk.out
          have HB9 : Hid (Below w3.heap.size w3 V9) := Lib.hid (hq.1 HB0.out (Nat.le_refl _) HB7.out)
          have HP : Hid (OwnO V9 B0 (.slice E1 e1 f1) xos ∧ OwnE V9 B0 (.slice E2 e2 f2) xes ∧ akR.Own V9 B0 (.slice E3 e3 f3) xas ∧ fdR.Own V9 B0 (.slice A8 (e4 + 1) c8) (xgs ++ [⟨0, q2, 0⟩])) := Lib.hid hq.2
          clear hq HBk j1 j2
          have HVx : Hid ((⟨xm, xos, ⟨E1, e1, f1⟩, xes, ⟨E2, e2, f2⟩, xq, xas, ⟨E3, e3, f3⟩, (xgs ++ [⟨0, q2, 0⟩]), ⟨A8, e4 + 1, c8⟩⟩ : StL).v = spoil (ps.length : Int) s0.v 6) := Lib.hid (by rw [← HV.out]; rw [HQ2.out]; rfl)
          have HIx : Hid (InS V9 (⟨xm, xos, ⟨E1, e1, f1⟩, xes, ⟨E2, e2, f2⟩, xq, xas, ⟨E3, e3, f3⟩, (xgs ++ [⟨0, q2, 0⟩]), ⟨A8, e4 + 1, c8⟩⟩ : StL)) := Lib.hid (in_parts HP.out.1 HP.out.2.1 HP.out.2.2.1 HP.out.2.2.2 (by rw [HVx.out]; exact HF2.out 6))
          have HBk : Hid (Blk V9 w7.heap.size 30 #[.int .i64 xm, .slice E1 e1 f1, .slice E2 e2 f2, .int .i64 xq, .slice E3 e3 f3, .slice A8 (e4 + 1) c8]) := Lib.hid hbk
          have hbx : w7.heap.size < V9.heap.size := HBk.out.lt
          have HBx := Lib.hid hbx
          have HG10 := Lib.hid (HGo.out T g ps (⟨xm, xos, ⟨E1, e1, f1⟩, xes, ⟨E2, e2, f2⟩, xq, xas, ⟨E3, e3, f3⟩, (xgs ++ [⟨0, q2, 0⟩]), ⟨A8, e4 + 1, c8⟩⟩ : StL) V9 (HT.out HB9.out) HG.out HIx.out)
          simp only [StL.val, Sl.val] at HG10
          clear hbk hbx
          rw [← HV9.out]
          clear x0 x1 x2 x3 x4 x5
          refine HG10.out.mono ?_
          rintro e wa ⟨b, rfl, hbb, hba⟩
          obtain rfl : b = false := by
            cases b
            · rfl
            · have := hbb.1 rfl
              rw [HVx.out] at this
              exact absurd this (HNo.out 6)
          have HBa : Hid (Below w3.heap.size w3 wa) := Lib.hid (HT3.out HB9.out hba)
          have HI10 := Lib.hid (HIx.out.next hba)
          have HK10 := Lib.hid (HBk.out.below hba HBx.out)
          clear hbb hba
          obtain ⟨y0, y1, y2, y3, y4, y5⟩ := HX3.out wa HBa.out
          go_wp2_with fail
          clear y0 y1 y2 y3 y4 y5
          refine (HG3.out wa HBa.out).mono ?_
          rintro e wb ⟨b, rfl, hbb, hbb3⟩
          obtain rfl : b = true := hbb.2 HGd.out
          have HBb : Hid (Below w3.heap.size w3 wb) := Lib.hid (HT3.out HBa.out hbb3)
          have HI11 := Lib.hid (HI10.out.next hbb3)
          have HK11 := Lib.hid (HK10.out.below hbb3 HK10.out.lt)
          clear hbb hbb3
          obtain ⟨y0, y1, y2, y3, y4, y5⟩ := HX3.out wb HBb.out
          obtain ⟨x0, x1, x2, x3, x4, x5⟩ : wb.cell? ⟨w7.heap.size, 0, none⟩ = some (.int .i64 xm) ∧ wb.cell? ⟨w7.heap.size, 1, none⟩ = some (.slice E1 e1 f1) ∧ wb.cell? ⟨w7.heap.size, 2, none⟩ = some (.slice E2 e2 f2) ∧ wb.cell? ⟨w7.heap.size, 3, none⟩ = some (.int .i64 xq) ∧ wb.cell? ⟨w7.heap.size, 4, none⟩ = some (.slice E3 e3 f3) ∧ wb.cell? ⟨w7.heap.size, 5, none⟩ = some (.slice A8 (e4 + 1) c8) := ⟨HK11.out.cell 0, HK11.out.cell 1, HK11.out.cell 2, HK11.out.cell 3, HK11.out.cell 4, HK11.out.cell 5⟩
          have HS12 := Lib.hid (HS9.out (⟨xm, xos, ⟨E1, e1, f1⟩, xes, ⟨E2, e2, f2⟩, xq, xas, ⟨E3, e3, f3⟩, (xgs ++ [⟨0, q2, 0⟩]), ⟨A8, e4 + 1, c8⟩⟩ : StL) wb HI11.out (HU.out HBb.out))
          rw [HVx.out, decide_eq_false (HNs.out 6)] at HS12
          go_wp2_with fail
          clear y0 y1 y2 y3 y4 y5 x0 x1 x2 x3 x4 x5
          refine HS12.out.mono ?_
          rintro e wc ⟨rfl, hbc⟩
          have HBc := Lib.hid (HUw.out (HT3.out HBb.out hbc))
          clear hbc
          go_wp2_with fail
          go_ret
          exact ⟨rfl, HBc.out⟩
        · have hz' : bits .and .i64 sp 7 = 7 := hz
          clear hz hz7
          obtain ⟨Vb, hVb⟩ : ∃ Vb, Vb = w7.alloc (.cells #[.int .i64 xm, .slice E1 e1 f1, .slice E2 e2 f2, .int .i64 xq, .slice E3 e3 f3, .slice E4 e4 f4] 30) := ⟨_, rfl⟩
          obtain ⟨Vn, hVn⟩ : ∃ Vn, Vn = Vb.alloc (.cells #[.int .i64 0, .int .i64 0] 64) := ⟨_, rfl⟩
          have hsb : Vb.heap.size = w7.heap.size + 1 := by rw [hVb, World.size_alloc]
          have HSb := Lib.hid hsb
          have HVb := Lib.hid hVb
          have HVn := Lib.hid hVn
          have hbn : Below w7.heap.size w7 Vn := by rw [hVn, hVb]; exact ((Below.refl _ _).alloc (Nat.le_refl _) _).alloc (by rw [World.size_alloc]; omega) _
          have HBn := Lib.hid hbn
          have HB07 : Hid (B0 ≤ w7.heap.size) := Lib.hid (by have h1 := HB77.out; omega)
          clear hVb hVn hsb hbn
          go_wp2_with (at_builtin; rw [← HVb.out, ← HVn.out]; refine Row.app akR Vn rfl (.tmp 126) (.tmp 128) rfl B0 (.slice E3 e3 f3) xas rfl (HSc.out.as_.below HBn.out) (w7.heap.size + 1 + 1) (some ⟨w7.heap.size + 1, 0, none⟩) 1 [⟨0, 0⟩] 1 rfl (by { have h := Row.reads_new akR Vb #[.int .i64 0, .int .i64 0] 64 [⟨0, 0⟩] rfl; rw [HSb.out, ← HVn.out] at h; exact h }) (by { have h1 := K1.out; have h2 := K2.out; show (xas.length + 1) * 16 ≤ _; omega }) (by { have h1 := HBn.out.size; have h2 := HB07.out; omega }) ?_; intro v8 V8 ho8 hg8 hl8; obtain ⟨A8, c8, e8⟩ := ho8.slk (k := e3 + 1) (by { have h2 := K1.out; simp; omega }); subst e8; have HL := Lib.hid (app_a (j := 4) HSc.out HVb.out HVn.out ho8 hg8 hl8); have j1 := Blk.cell HL.out.1 4; have j2 := Blk.frozen HL.out.1 4; obtain ⟨V9, hV9⟩ : ∃ V9, V9 = V8.setCell ⟨w7.heap.size, 4, none⟩ (.slice A8 (e3 + 1) c8) := ⟨_, rfl⟩; have HV9 := Lib.hid hV9; have HBk := Lib.hid (Blk.set HL.out.1 4 (.slice A8 (e3 + 1) c8)); have x0 := Blk.cell HBk.out 0; have x1 := Blk.cell HBk.out 1; have x2 := Blk.cell HBk.out 2; have x3 := Blk.cell HBk.out 3; have x4 := Blk.cell HBk.out 4; have x5 := Blk.cell HBk.out 5; simp only [List.setIfInBounds_toArray] at x0 x1 x2 x3 x4 x5; clear hV9 ho8 hg8 hl8)
          have hq := HL.out.2
          rw [← HV9.out] at hq HBk
          have hbk : Blk V9 w7.heap.size 30 #[.int .i64 xm, .slice E1 e1 f1, .slice E2 e2 f2, .int .i64 xq, .slice A8 (e3 + 1) c8, .slice E4 e4 f4] := HBk.out
          have HB9 : Hid (Below w3.heap.size w3 V9) := Lib.hid (hq.1 HB0.out (Nat.le_refl _) HB7.out)
          have HP : Hid (OwnO V9 B0 (.slice E1 e1 f1) xos ∧ OwnE V9 B0 (.slice E2 e2 f2) xes ∧ akR.Own V9 B0 (.slice A8 (e3 + 1) c8) (xas ++ [⟨0, 0⟩]) ∧ fdR.Own V9 B0 (.slice E4 e4 f4) xgs) := Lib.hid hq.2
          clear hq HBk j1 j2
          have HVx : Hid ((⟨xm, xos, ⟨E1, e1, f1⟩, xes, ⟨E2, e2, f2⟩, xq, (xas ++ [⟨0, 0⟩]), ⟨A8, e3 + 1, c8⟩, xgs, ⟨E4, e4, f4⟩⟩ : StL).v = spoil (ps.length : Int) s0.v 7) := Lib.hid (by rw [← HV.out]; rfl)
          have HIx : Hid (InS V9 (⟨xm, xos, ⟨E1, e1, f1⟩, xes, ⟨E2, e2, f2⟩, xq, (xas ++ [⟨0, 0⟩]), ⟨A8, e3 + 1, c8⟩, xgs, ⟨E4, e4, f4⟩⟩ : StL)) := Lib.hid (in_parts HP.out.1 HP.out.2.1 HP.out.2.2.1 HP.out.2.2.2 (by rw [HVx.out]; exact HF2.out 7))
          have HBk : Hid (Blk V9 w7.heap.size 30 #[.int .i64 xm, .slice E1 e1 f1, .slice E2 e2 f2, .int .i64 xq, .slice A8 (e3 + 1) c8, .slice E4 e4 f4]) := Lib.hid hbk
          have hbx : w7.heap.size < V9.heap.size := HBk.out.lt
          have HBx := Lib.hid hbx
          have HG10 := Lib.hid (HGo.out T g ps (⟨xm, xos, ⟨E1, e1, f1⟩, xes, ⟨E2, e2, f2⟩, xq, (xas ++ [⟨0, 0⟩]), ⟨A8, e3 + 1, c8⟩, xgs, ⟨E4, e4, f4⟩⟩ : StL) V9 (HT.out HB9.out) HG.out HIx.out)
          simp only [StL.val, Sl.val] at HG10
          clear hbk hbx
          rw [← HV9.out]
          clear x0 x1 x2 x3 x4 x5
          refine HG10.out.mono ?_
          rintro e wa ⟨b, rfl, hbb, hba⟩
          obtain rfl : b = false := by
            cases b
            · rfl
            · have := hbb.1 rfl
              rw [HVx.out] at this
              exact absurd this (HNo.out 7)
          have HBa : Hid (Below w3.heap.size w3 wa) := Lib.hid (HT3.out HB9.out hba)
          have HI10 := Lib.hid (HIx.out.next hba)
          have HK10 := Lib.hid (HBk.out.below hba HBx.out)
          clear hbb hba
          obtain ⟨y0, y1, y2, y3, y4, y5⟩ := HX3.out wa HBa.out
          go_wp2_with fail
          clear y0 y1 y2 y3 y4 y5
          refine (HG3.out wa HBa.out).mono ?_
          rintro e wb ⟨b, rfl, hbb, hbb3⟩
          obtain rfl : b = true := hbb.2 HGd.out
          have HBb : Hid (Below w3.heap.size w3 wb) := Lib.hid (HT3.out HBa.out hbb3)
          have HI11 := Lib.hid (HI10.out.next hbb3)
          have HK11 := Lib.hid (HK10.out.below hbb3 HK10.out.lt)
          clear hbb hbb3
          obtain ⟨y0, y1, y2, y3, y4, y5⟩ := HX3.out wb HBb.out
          obtain ⟨x0, x1, x2, x3, x4, x5⟩ : wb.cell? ⟨w7.heap.size, 0, none⟩ = some (.int .i64 xm) ∧ wb.cell? ⟨w7.heap.size, 1, none⟩ = some (.slice E1 e1 f1) ∧ wb.cell? ⟨w7.heap.size, 2, none⟩ = some (.slice E2 e2 f2) ∧ wb.cell? ⟨w7.heap.size, 3, none⟩ = some (.int .i64 xq) ∧ wb.cell? ⟨w7.heap.size, 4, none⟩ = some (.slice A8 (e3 + 1) c8) ∧ wb.cell? ⟨w7.heap.size, 5, none⟩ = some (.slice E4 e4 f4) := ⟨HK11.out.cell 0, HK11.out.cell 1, HK11.out.cell 2, HK11.out.cell 3, HK11.out.cell 4, HK11.out.cell 5⟩
          have HS12 := Lib.hid (HS9.out (⟨xm, xos, ⟨E1, e1, f1⟩, xes, ⟨E2, e2, f2⟩, xq, (xas ++ [⟨0, 0⟩]), ⟨A8, e3 + 1, c8⟩, xgs, ⟨E4, e4, f4⟩⟩ : StL) wb HI11.out (HU.out HBb.out))
          rw [HVx.out, decide_eq_false (HNs.out 7)] at HS12
          go_wp2_with fail
          clear y0 y1 y2 y3 y4 y5 x0 x1 x2 x3 x4 x5
          refine HS12.out.mono ?_
          rintro e wc ⟨rfl, hbc⟩
          have HBc := Lib.hid (HUw.out (HT3.out HBb.out hbc))
          clear hbc
          go_wp2_with fail
          go_ret
          exact ⟨rfl, HBc.out⟩
end Go.Proofs.Ytcicpgiljceioaa.Pk
