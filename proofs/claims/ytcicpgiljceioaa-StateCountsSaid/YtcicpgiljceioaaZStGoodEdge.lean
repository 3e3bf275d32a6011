/- The landed goodEdges of package state. -/
import Derived.Test.YtcicpgiljceioaaZWiValidP
import Derived.Test.YtcicpgiljceioaaZHfGood
import Derived.Test.YtcicpgiljceioaaZStGood
namespace Go.Proofs.Ytcicpgiljceioaa.Pk
open Go.RowKit Go.Proofs.Ytcicpgiljceioaa.Gr
set_option linter.unusedVariables false
attribute [local go_sem] Oper.semAt_some
def EdgesOk (ps : List Int) (s : St) : Prop := s.es.map (·.p) = nbsI ps s.me ∧ ∀ e ∈ s.es, SideOk (ps.length : Int) (s.os.length : Int) e
theorem nbs_len32 {ps : List Int} (G : Gr.Good ps) (me : Int) : (nbsI ps me).length ≤ 32 := by
  unfold nbsI
  split
  · exact Nat.le_trans (nbs_len _ _ _) G.few
  · simp
set_option maxRecDepth 100000 in
set_option maxHeartbeats 16000000 in
theorem goodEdges_any (T g : Nat) (ps : List Int) (s : StL) (w : World) (htr : IsTr w T g ps) (G : Gr.Good ps) (hin : InS w s) :
    Calls Try.prog 37 #[.pointer (some ⟨T, 0, none⟩), s.val] w fun e w' => ∃ t, e = .returned (.bool t) ∧ (t = true ↔ EdgesOk ps s.v) ∧ Below w.heap.size w w' := by
  obtain ⟨t, ht⟩ := bool_of (EdgesOk ps s.v)
  have HTt := Lib.hid ht
  clear ht
  suffices hh : Calls Try.prog 37 #[.pointer (some ⟨T, 0, none⟩), s.val] w fun e w' => e = .returned (.bool t) ∧ Below w.heap.size w w' from hh.mono fun e w' h => ⟨t, h.1, HTt.out, h.2⟩
  have HI := Lib.hid hin
  have HT := Lib.hid htr
  have HG := Lib.hid G
  obtain ⟨me, os, ⟨A, n, c⟩, es, ⟨A', n', c'⟩, q, as_, ⟨Aa, na, ca⟩, gs, ⟨Ag, ng, cg⟩⟩ := s
  have L1 : Hid (os.length = n) := Lib.hid hin.os.len
  have L2 : Hid (es.length = n') := Lib.hid hin.es.len
  have L3 : Hid (as_.length = na) := Lib.hid hin.as_.len
  have L4 : Hid (gs.length = ng) := Lib.hid hin.gs.len
  have b1 : n * 40 ≤ 140737488351232 := hin.os.few
  have b2 : n' * 48 ≤ 140737488351232 := hin.es.few
  have b3 : na * 16 ≤ 140737488351232 := hin.as_.few
  have b4 : ng * 24 ≤ 140737488351232 := hin.gs.few
  have k1 : n ≤ c := hin.os.cap
  have k2 : n' ≤ c' := hin.es.cap
  have k3 : na ≤ ca := hin.as_.cap
  have k4 : ng ≤ cg := hin.gs.cap
  obtain ⟨nb, hnb⟩ : ∃ nb, nb = nbsI ps me := ⟨_, rfl⟩
  have HEq : Hid (t = true ↔ (es.map (·.v)).map (·.p) = nb ∧ ∀ e ∈ es, SideOk (ps.length : Int) (n : Int) e.v) := Lib.hid (by
    rw [HTt.out, hnb]
    have e1 : (os.map (·.v)).length = n := by rw [List.length_map, L1.out]
    unfold EdgesOk
    simp only [StL.v, e1]
    refine and_congr_right fun _ => ⟨fun h x hx => h x.v (List.mem_map.2 ⟨x, hx, rfl⟩), fun h e he => ?_⟩
    obtain ⟨x, hx, rfl⟩ := List.mem_map.1 he
    exact h x hx)
  have HF := Lib.hid (fun h => not_of HEq.out h)
  clear hin htr HTt
  show Calls Try.prog 37 #[.pointer (some ⟨T, 0, none⟩), .agg #[.int .i64 me, .slice A n c, .slice A' n' c', .int .i64 q, .slice Aa na ca, .slice Ag ng cg]] w _
  obtain ⟨p, hp⟩ : ∃ p, p = w.heap.size := ⟨_, rfl⟩
  obtain ⟨W1, hW1⟩ : ∃ W1, W1 = w.alloc (.cells #[.int .i64 me, .slice A n c, .slice A' n' c', .int .i64 q, .slice Aa na ca, .slice Ag ng cg] 30) := ⟨_, rfl⟩
  have HB1 : Hid (Below w.heap.size w W1) := Lib.hid (hW1 ▸ (Below.refl _ _).alloc (Nat.le_refl _) _)
  have HKp : Hid (Blk W1 p 30 #[.int .i64 me, .slice A n c, .slice A' n' c', .int .i64 q, .slice Aa na ca, .slice Ag ng cg]) := Lib.hid (by rw [hW1, hp]; exact Blk.new w _ _)
  have HNb := Lib.hid (nbrs_any T g ps me W1 (HT.out.below_ HB1.out) G.few)
  rw [← hnb] at HNb
  obtain ⟨m, hm⟩ : ∃ m, m = nb.length := ⟨_, rfl⟩
  have hm32 : m ≤ 32 := by rw [hm, hnb]; exact nbs_len32 G me
  have HM := Lib.hid hm
  have y0 := HKp.out.cell 0
  clear hnb G hm
  go_enter Try.func37, Try.ntmps37
  go_wp2_with fail
  rw [← hW1, ← hp]
  clear hW1 hp
  refine HNb.out.mono ?_
  rintro e V1 ⟨vn, rfl, hon, hb⟩
  obtain ⟨An, cn, rfl, hcn, hrn⟩ := hon.reads
  rw [← HM.out] at hcn hrn ⊢
  have HRn := Lib.hid hrn
  have HB2 : Hid (Below w.heap.size w V1) := Lib.hid (HB1.out.trans (hb.mono HB1.out.size))
  have HK1 := Lib.hid (HKp.out.below hb HKp.out.lt)
  clear hon hrn hb y0
  have y2 := HK1.out.cell 2
  by_cases hnm : n' = m
  case neg =>
    have hrf : t = false := HF.out (fun h => hnm (by
      have := congrArg List.length h.1
      simp only [List.length_map, L2.out, ← HM.out] at this
      exact this))
    have t0 : ((n' : Int) != (m : Int)) = true := by simp; omega
    clear hnm
    go_wp2_with fail
    go_ret
    exact ⟨by first | rfl | (rw [hrf]; rfl), HB2.out⟩
  have t0 : ((n' : Int) != (m : Int)) = false := by simp; omega
  have HNm := Lib.hid hnm
  clear hnm
  go_wp2_with fail
  go_loopw [23] (fun j wr => ∃ i : Nat, j = .int .i64 i ∧ i ≤ n' ∧ (∀ j, j < i → (sdA es j).v.p = nb.getD j 0 ∧ SideOk (ps.length : Int) (n : Int) (sdA es j).v) ∧ Below V1.heap.size V1 wr) (fun j _ => n' - (intOf j).toNat)
  case atStart => exact ⟨0, rfl, by omega, (fun j hj => by omega), Below.refl _ _⟩
  case round =>
    obtain ⟨i, rfl, hi, hal, hb⟩ := hrel
    obtain ⟨V0, rfl⟩ : ∃ V : World, V = wr := ⟨_, rfl⟩
    have HA := Lib.hid hal
    have HBV := Lib.hid hb
    have HBw : Hid (Below w.heap.size w V0) := Lib.hid (HB2.out.trans (hb.mono HB2.out.size))
    have HKV := Lib.hid (HK1.out.below hb HK1.out.lt)
    clear hal hb y2
    by_cases hlt : i < n'
    case neg =>
      have hrt : t = true := HEq.out.2 (by
        have hi2 : i = n' := by omega
        refine ⟨List.ext_getElem? fun j => ?_, fun x hx => ?_⟩
        · rcases Nat.lt_or_ge j n' with h1 | h1
          · have h2 := (HA.out j (by omega)).1
            have hj : j < es.length := by rw [L2.out]; exact h1
            have hj2 : j < nb.length := by rw [← HM.out, ← HNm.out]; exact h1
            rw [List.getElem?_map, List.getElem?_map, sdA_get hj, List.getElem?_eq_getElem hj2]
            rw [List.getD_eq_getElem?_getD, List.getElem?_eq_getElem hj2] at h2
            simpa using h2
          · rw [List.getElem?_eq_none (by simp [L2.out]; omega), List.getElem?_eq_none (by rw [← HM.out, ← HNm.out]; omega)]
        · obtain ⟨j, hj⟩ := List.getElem?_of_mem hx
          have hj1 := (List.getElem?_eq_some_iff.1 hj).1
          have h2 := (HA.out j (by rw [L2.out] at hj1; omega)).2
          have h3 := sdA_get hj1
          rw [hj] at h3
          injection h3 with h3
          rw [h3]; exact h2)
      go_wp2_with fail
      go_ret
      exact ⟨by first | rfl | (rw [hrt]; rfl), HBw.out⟩
    have hil : i < es.length := by rw [L2.out]; exact hlt
    have him : i < m := by have h1 := HNm.out; omega
    obtain ⟨b, off, rfl, hbw, hc⟩ := sdR.spots (HI.out.es.next HBw.out).rd (show 0 < n' by omega)
    have hg := sdA_get hil
    have HOk := Lib.hid (HI.out.e _ (List.mem_of_getElem? hg))
    obtain ⟨x1, hx1⟩ : ∃ r, r = sdA es i := ⟨_, rfl⟩
    rw [← hx1] at hg HOk
    have HMem := Lib.hid (List.mem_of_getElem? hg)
    obtain ⟨b2, off2, rfl, hbw2, hc2⟩ := (HRn.out.below HBV.out).i64 (by omega)
    have r0 := hc2 i him
    obtain ⟨z, hz⟩ : ∃ z, z = nb.getD i 0 := ⟨_, rfl⟩
    rw [← hz] at r0
    have HNo : Hid (¬ (x1.v.p = z ∧ SideOk (ps.length : Int) (n : Int) x1.v) → t = false) := Lib.hid (fun h => HF.out (fun g => h ⟨by
      have e1 : ((es.map (·.v)).map (·.p))[i]? = some x1.v.p := by rw [List.getElem?_map, List.getElem?_map, hg]; rfl
      have hn2 : i < nb.length := by rw [← HM.out]; exact him
      rw [g.1, List.getElem?_eq_getElem hn2] at e1
      injection e1 with e1
      rw [hz, List.getD_eq_getElem?_getD, List.getElem?_eq_getElem hn2, ← e1]; rfl, g.2 x1 HMem.out⟩))
    have HAn : Hid (x1.v.p = z → SideOk (ps.length : Int) (n : Int) x1.v → ∀ j, j < i + 1 → (sdA es j).v.p = nb.getD j 0 ∧ SideOk (ps.length : Int) (n : Int) (sdA es j).v) := Lib.hid (fun h h' j hj => by
      rcases Nat.lt_or_ge j i with h1 | h1
      · exact HA.out j h1
      · obtain rfl : j = i := by omega
        rw [← hx1, ← hz]; exact ⟨h, h'⟩)
    have m0 := hc i x1 hg 0 _ rfl
    have m1 := hc i x1 hg 1 _ rfl
    have m2 := hc i x1 hg 2 _ rfl
    have m3 := hc i x1 hg 3 _ rfl
    obtain ⟨⟨rp, rb, ro, rs⟩, ⟨A1, n1, c1⟩⟩ := x1
    simp only [sdR, Nat.add_zero, Sl.val, ← Nat.add_assoc] at m0 m1 m2 m3
    have hn1 : n1 * 40 ≤ 140737488351232 := HOk.out.o.few
    have HLr : Hid (ro.length = n1) := Lib.hid HOk.out.o.len
    obtain ⟨p2, hp2⟩ : ∃ x, x = V0.heap.size := ⟨_, rfl⟩
    obtain ⟨V2, hV2⟩ : ∃ V, V = V0.alloc (.cells #[.int .i64 rp, .int .i64 rb, .slice A1 n1 c1, .int .i64 rs] 60) := ⟨_, rfl⟩
    have HB02 : Hid (Below V0.heap.size V0 V2) := Lib.hid (hV2 ▸ (Below.refl _ _).alloc (Nat.le_refl _) _)
    have HB3 : Hid (Below V1.heap.size V1 V2) := Lib.hid (HBV.out.trans (HB02.out.mono HBV.out.size))
    have HKo : Hid (Blk V2 p2 60 #[.int .i64 rp, .int .i64 rb, .slice A1 n1 c1, .int .i64 rs]) := Lib.hid (by rw [hV2, hp2]; exact Blk.new V0 _ _)
    have HS : Hid (∀ W, Below V2.heap.size V2 W → W.cell? ⟨p2, 0, none⟩ = some (.int .i64 rp) ∧ W.cell? ⟨p2, 1, none⟩ = some (.int .i64 rb) ∧ W.cell? ⟨p2, 2, none⟩ = some (.slice A1 n1 c1) ∧ W.cell? ⟨p2, 3, none⟩ = some (.int .i64 rs) ∧ W.cell? ⟨b2, off2 + i, none⟩ = some (.int .i64 z)) := Lib.hid (fun W hW => by
      have h1 := HKo.out.below hW HKo.out.lt
      have q1 : b2 < V0.heap.size := Nat.lt_of_lt_of_le hbw2 HBV.out.size
      have q2 : Below V0.heap.size V0 W := HB02.out.trans (hW.mono HB02.out.size)
      exact ⟨h1.cell 0, h1.cell 1, h1.cell 2, h1.cell 3, (q2.cell (p := ⟨b2, off2 + i, none⟩) q1).trans r0⟩)
    have HBup : Hid (∀ {W : World}, Below V2.heap.size V2 W → Below w.heap.size w W) := Lib.hid (fun h => HB2.out.trans ((HB3.out.trans (h.mono HB3.out.size)).mono HB2.out.size))
    have hid1 : i < n' := hlt
    clear hc hc2 hg hx1 hbw hbw2 hil hz r0
    go_wp2_with fail
    rw [← hV2, ← hp2]
    clear hV2 hp2 m0 m1 m2 m3
    by_cases e1 : rp = z
    case neg =>
      have u1 : (rp != z) = true := by simp [e1]
      have hrf : t = false := HNo.out (fun h => e1 h.1)
      have z0 := fun k => (HS.out (V2.drewN k) (below_drewC (Below.refl _ _) k)).1
      have z1 := fun k => (HS.out (V2.drewN k) (below_drewC (Below.refl _ _) k)).2.1
      have z2 := fun k => (HS.out (V2.drewN k) (below_drewC (Below.refl _ _) k)).2.2.1
      have z3 := fun k => (HS.out (V2.drewN k) (below_drewC (Below.refl _ _) k)).2.2.2.1
      have z4 := fun k => (HS.out (V2.drewN k) (below_drewC (Below.refl _ _) k)).2.2.2.2
      clear e1
      go_quiet (fail)
      go_wp2_with fail
      go_ret
      exact ⟨by first | rfl | (rw [hrf]; rfl), HBup.out (below_drewC (Below.refl _ _) _)⟩
    have u1 : (rp != z) = false := by simp [e1]
    obtain ⟨be, hbe⟩ : ∃ be, be = decide ((⟨rp, rb, ro, rs⟩ : Hf).Be) := ⟨_, rfl⟩
    have HBe := Lib.hid hbe
    have HGd : Hid (∀ W, Below V2.heap.size V2 W → Calls Try.prog 62 #[.agg #[.int .i64 rp, .int .i64 rb, .slice A1 n1 c1, .int .i64 rs]] W fun e w' => e = .returned (.bool be) ∧ Below W.heap.size W w') := Lib.hid (fun W hW => by
      have h1 := HOk.out.next (HBup.out hW)
      refine (goodH ⟨rp, rb, ro, rs⟩ A1 n1 c1 W ⟨h1.o.rd, h1.o.cap, by omega, ⟨h1.p, h1.b, h1.s, h1.i⟩⟩).mono fun e w' h => ⟨by rw [h.1, hbe], h.2⟩)
    have HE1 := Lib.hid e1
    clear e1 hbe
    have X0 := HS.out V2 (Below.refl _ _)
    have X0d := HS.out V2.drew (below_drewC (Below.refl _ _) 1)
    cases be with
    | false =>
      go_region_held3 (fun W => W.cell? ⟨p2, 0, none⟩ = some (.int .i64 rp) ∧ W.cell? ⟨p2, 1, none⟩ = some (.int .i64 rb) ∧ W.cell? ⟨p2, 2, none⟩ = some (.slice A1 n1 c1) ∧ W.cell? ⟨p2, 3, none⟩ = some (.int .i64 rs) ∧ W.cell? ⟨b2, off2 + i, none⟩ = some (.int .i64 z)) (first | with_reducible exact X0 | with_reducible exact X0d | with_reducible exact X1 | go_keep) (first
        | (go_at_call 62; go_must (refine (HGd.out _ (below_drewC (Below.refl _ _) 1)).mono ?_; rintro e w4 ⟨rfl, hb4⟩; have HB4 : Hid (Below V2.heap.size V2 w4) := Lib.hid ((below_drewC (Below.refl _ _) 1).trans hb4); have X1 := HS.out w4 HB4.out; clear hb4)))
      clear X0 X0d X1
      have hrf : t = false := HNo.out (fun h => by have := HBe.out; rw [decide_eq_true h.2.1] at this; cases this)
      go_wp2_with fail
      go_ret
      exact ⟨by first | rfl | (rw [hrf]; rfl), HBup.out HB4.out⟩
    | true =>
    go_region_held3 (fun W => W.cell? ⟨p2, 0, none⟩ = some (.int .i64 rp) ∧ W.cell? ⟨p2, 1, none⟩ = some (.int .i64 rb) ∧ W.cell? ⟨p2, 2, none⟩ = some (.slice A1 n1 c1) ∧ W.cell? ⟨p2, 3, none⟩ = some (.int .i64 rs) ∧ W.cell? ⟨b2, off2 + i, none⟩ = some (.int .i64 z)) (first | with_reducible exact X0 | with_reducible exact X0d | with_reducible exact X1 | go_keep) (first
      | (go_at_call 62; go_must (refine (HGd.out _ (below_drewC (Below.refl _ _) 1)).mono ?_; rintro e w4 ⟨rfl, hb4⟩; have HB4 : Hid (Below V2.heap.size V2 w4) := Lib.hid ((below_drewC (Below.refl _ _) 1).trans hb4); have X1 := HS.out w4 HB4.out; clear hb4)))
    clear X0 X0d X1
    have HBt : Hid ((⟨rp, rb, ro, rs⟩ : Hf).Be) := Lib.hid (of_decide_eq_true HBe.out.symm)
    have x2 := (HS.out w4 HB4.out).2.2.1
    go_wp2_with fail
    go_loopw [43] (fun j wr => ∃ k : Nat, j = .int .i64 k ∧ k ≤ n1 ∧ (∀ x ∈ ro.take k, MeantS (ps.length : Int) (n : Int) x) ∧ Below w4.heap.size w4 wr) (fun j _ => n1 - (intOf j).toNat)
    case atStart => exact ⟨0, rfl, by omega, (fun x hx => by simp at hx), Below.refl _ _⟩
    case round =>
      obtain ⟨k, rfl, hk, hal2, hb5⟩ := hrel
      obtain ⟨U0, rfl⟩ : ∃ V : World, V = wr := ⟨_, rfl⟩
      have HA2 := Lib.hid hal2
      have HB24 : Hid (Below V2.heap.size V2 U0) := Lib.hid (HB4.out.trans (hb5.mono HB4.out.size))
      have HBw2 : Hid (Below w.heap.size w U0) := Lib.hid (HBup.out HB24.out)
      have HB1U : Hid (Below V1.heap.size V1 U0) := Lib.hid (HB3.out.trans (HB24.out.mono HB3.out.size))
      have HB4U := Lib.hid hb5
      clear hal2 hb5 x2
      by_cases hlt2 : k < n1
      case neg =>
        have HSd := Lib.hid (HAn.out HE1.out ⟨HBt.out, fun x hx => HA2.out x (by rw [List.take_of_length_le (by rw [HLr.out]; omega)]; exact hx)⟩)
        go_wp2_with fail
        go_roundw
        case rel => exact ⟨i + 1, by go_num, by omega, HSd.out, HB1U.out⟩
        case measure => simp [intOf]; omega
      have hkl : k < ro.length := by rw [HLr.out]; exact hlt2
      obtain ⟨b3, off3, rfl, hbw3, hc3⟩ := mgR.spots (HOk.out.next HBw2.out).o.rd (show 0 < n1 by omega)
      have hg3 : ro[k]? = some (ro.getD k default) := by rw [List.getD_eq_getElem?_getD, List.getElem?_eq_getElem hkl]; rfl
      obtain ⟨u3, hu3⟩ : ∃ r, r = ro.getD k default := ⟨_, rfl⟩
      rw [← hu3] at hg3
      have HG3 := Lib.hid hg3
      have HM3 := Lib.hid (List.mem_of_getElem? hg3)
      have f0 := hc3 k u3 hg3 0 _ rfl
      have f1 := hc3 k u3 hg3 1 _ rfl
      have f2 := hc3 k u3 hg3 2 _ rfl
      have f3 := hc3 k u3 hg3 3 _ rfl
      have f4 := hc3 k u3 hg3 4 _ rfl
      have HNx3 : Hid (MeantS (ps.length : Int) (n : Int) u3 → ∀ x ∈ ro.take (k + 1), MeantS (ps.length : Int) (n : Int) x) := Lib.hid (fun h x hx => by
        rw [List.take_add_one, HG3.out] at hx
        rcases List.mem_append.1 hx with hx | hx
        · exact HA2.out x hx
        · have := List.mem_singleton.1 (by simpa using hx)
          rw [this]; exact h)
      have HNo3 : Hid (¬ MeantS (ps.length : Int) (n : Int) u3 → t = false) := Lib.hid (fun h => HNo.out (fun g => h (g.2.2 u3 HM3.out)))
      obtain ⟨y, hy⟩ : ∃ y, y = decide (MeantS (ps.length : Int) (n : Int) u3) := ⟨_, rfl⟩
      have HY := Lib.hid hy
      obtain ⟨U1, hU1⟩ : ∃ V1, V1 = U0.alloc (.cells #[.int .i64 u3.k, .int .i64 u3.o, .int .i64 u3.n, .int .i64 u3.u, .int .i64 u3.v] 45) := ⟨_, rfl⟩
      have hbU1 : Below U0.heap.size U0 U1 := hU1 ▸ (Below.refl _ _).alloc (Nat.le_refl _) _
      have HBU1 : Hid (Below w.heap.size w U1) := Lib.hid (HBw2.out.trans (hbU1.mono HBw2.out.size))
      have HB4U1 : Hid (Below w4.heap.size w4 U1) := Lib.hid (HB4U.out.trans (hbU1.mono HB4U.out.size))
      have HMc := Lib.hid (meantS T g ps (n : Int) u3 U1 (HT.out.below_ HBU1.out) HG.out ⟨by omega, by omega⟩ (HOk.out.i u3 HM3.out))
      have o1 : U1.cell? ⟨p, 1, none⟩ = some (.slice A n c) := (HK1.out.below (HB1U.out.trans (hbU1.mono HB1U.out.size)) HK1.out.lt).cell 1
      rw [← hy] at HMc
      obtain ⟨xk, xo, xn, xu, xv⟩ := u3
      simp only [mgR, Nat.add_zero, ← Nat.add_assoc] at f0 f1 f2 f3 f4
      simp only [Mg.val] at HMc hU1
      rw [hU1] at o1
      have HU1 := Lib.hid hU1
      have hid2 : k < n1 := hlt2
      clear hc3 hg3 hu3 hbw3 hkl hbU1 hU1 hy
      go_wp2_with fail
      rw [← HU1.out]
      refine HMc.out.mono ?_
      rintro e U2 ⟨rfl, hbu2⟩
      have HBU2 : Hid (Below w.heap.size w U2) := Lib.hid (HBU1.out.trans (hbu2.mono HBU1.out.size))
      have HB4U2 : Hid (Below w4.heap.size w4 U2) := Lib.hid (HB4U1.out.trans (hbu2.mono HB4U1.out.size))
      clear hbu2 o1
      cases y with
      | false =>
        have hrf : t = false := HNo3.out (fun h => by have := HY.out; rw [decide_eq_true h] at this; cases this)
        go_wp2_with fail
        go_ret
        exact ⟨by first | rfl | (rw [hrf]; rfl), HBU2.out⟩
      | true =>
        have HN3 := Lib.hid (HNx3.out (of_decide_eq_true HY.out.symm))
        go_wp2_with fail
        go_roundw
        case rel => exact ⟨k + 1, by go_num, by omega, HN3.out, HB4U2.out⟩
        case measure => simp [intOf]; omega
end Go.Proofs.Ytcicpgiljceioaa.Pk
