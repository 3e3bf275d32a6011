/- The landed Good of package state. -/
import Derived.Test.YtcicpgiljceioaaZStGoodLoc
namespace Go.Proofs.Ytcicpgiljceioaa.Pk
open Go.RowKit Go.Proofs.Ytcicpgiljceioaa.Gr
set_option linter.unusedVariables false
attribute [local go_sem] Oper.semAt_some
theorem goodS_iff {ps : List Int} {s : St} : GoodS ps s ↔ (0 ≤ s.me ∧ s.me < (ps.length : Int)) ∧ ObjsOk ps s ∧ EdgesOk ps s ∧ LocOk ps s ∧ sumK s.os ≤ 8 :=
  ⟨fun h => ⟨h.me, ⟨h.many, h.os⟩, ⟨h.ps_, h.es⟩, ⟨h.q, h.an, h.gn, h.as_, h.gs⟩, h.few⟩, fun h => ⟨h.1, h.2.1.1, h.2.1.2, h.2.2.1.1, h.2.2.1.2, h.2.2.2.1.1, h.2.2.2.1.2.1, h.2.2.2.1.2.2.1, h.2.2.2.1.2.2.2.1, h.2.2.2.1.2.2.2.2, h.2.2.2.2⟩⟩
set_option maxRecDepth 100000 in
set_option maxHeartbeats 8000000 in
theorem goodS : StGoodP := by
  intro T g ps s w htr G hin
  obtain ⟨t, ht⟩ := bool_of (GoodS ps s.v)
  have HTt := Lib.hid ht
  clear ht
  suffices hh : Calls Try.prog 16 #[.pointer (some ⟨T, 0, none⟩), s.val] w fun e w' => e = .returned (.bool t) ∧ Below w.heap.size w w' from hh.mono fun e w' h => ⟨t, h.1, HTt.out, h.2⟩
  have HIff := Lib.hid (HTt.out.trans goodS_iff)
  have HF := Lib.hid (fun h => not_of HIff.out h)
  have HI := Lib.hid hin
  have HT := Lib.hid htr
  have HG := Lib.hid G
  have HOb := Lib.hid (fun W h0 h1 (hW : Below w.heap.size w W) => goodObjs_any T g ps s W (htr.below_ hW) G h0 h1 (hin.next hW))
  have HEd := Lib.hid (fun W (hW : Below w.heap.size w W) => goodEdges_any T g ps s W (htr.below_ hW) G (hin.next hW))
  have HLo := Lib.hid (fun W (hW : Below w.heap.size w W) => goodLoc_any T g ps s W (htr.below_ hW) (hin.next hW))
  have HOp := Lib.hid (fun W (hW : Below w.heap.size w W) => openS s W (hin.next hW))
  have HSum : Hid (ObjsOk ps s.v → openW s.v.os = (sumK s.v.os : Int)) := Lib.hid (fun h => by
    have hm := h.1
    simp only [StL.v, List.length_map] at hm
    refine open_is s.os _ rfl hm.2 (fun x hx => ?_)
    have h1 := (hin.o x hx).c.len
    have h2 : x.s.n * 32 ≤ 140737488351232 := (hin.o x hx).c.few
    omega)
  obtain ⟨me, os, ⟨A, n, c⟩, es, ⟨A', n', c'⟩, q, as_, ⟨Aa, na, ca⟩, gs, ⟨Ag, ng, cg⟩⟩ := s
  have L1 : Hid (os.length = n) := Lib.hid HI.out.os.len
  have L2 : Hid (es.length = n') := Lib.hid HI.out.es.len
  have L3 : Hid (as_.length = na) := Lib.hid HI.out.as_.len
  have L4 : Hid (gs.length = ng) := Lib.hid HI.out.gs.len
  have b1 : n * 40 ≤ 140737488351232 := HI.out.os.few
  have b2 : n' * 48 ≤ 140737488351232 := HI.out.es.few
  have b3 : na * 16 ≤ 140737488351232 := HI.out.as_.few
  have b4 : ng * 24 ≤ 140737488351232 := HI.out.gs.few
  have k1 : n ≤ c := HI.out.os.cap
  have k2 : n' ≤ c' := HI.out.es.cap
  have k3 : na ≤ ca := HI.out.as_.cap
  have k4 : ng ≤ cg := HI.out.gs.cap
  clear hin htr G HTt
  simp only [StL.val, Sl.val] at HOb HEd HLo HOp
  show Calls Try.prog 16 #[.pointer (some ⟨T, 0, none⟩), .agg #[.int .i64 me, .slice A n c, .slice A' n' c', .int .i64 q, .slice Aa na ca, .slice Ag ng cg]] w _
  obtain ⟨p, hp⟩ : ∃ p, p = w.heap.size := ⟨_, rfl⟩
  obtain ⟨W1, hW1⟩ : ∃ W1, W1 = w.alloc (.cells #[.int .i64 me, .slice A n c, .slice A' n' c', .int .i64 q, .slice Aa na ca, .slice Ag ng cg] 30) := ⟨_, rfl⟩
  have HB1 : Hid (Below w.heap.size w W1) := Lib.hid (hW1 ▸ (Below.refl _ _).alloc (Nat.le_refl _) _)
  have HKp : Hid (Blk W1 p 30 #[.int .i64 me, .slice A n c, .slice A' n' c', .int .i64 q, .slice Aa na ca, .slice Ag ng cg]) := Lib.hid (by rw [hW1, hp]; exact Blk.new w _ _)
  have y0 := HKp.out.cell 0
  go_enter Try.func16, Try.ntmps16
  go_wp2_with fail
  rw [← hW1, ← hp]
  clear hW1 hp
  by_cases d1 : 0 ≤ me ∧ me < (ps.length : Int)
  case neg =>
    have hrf : t = false := HF.out (fun h => d1 h.1)
    refine (hasB_ (v := me) false W1 (HT.out.below_ HB1.out) (decide_eq_false d1)).mono ?_
    rintro e wq ⟨rfl, hw⟩
    rw [hw]
    clear hw wq
    clear d1
    go_wp2_with fail
    go_ret
    exact ⟨by first | rfl | (rw [hrf]; rfl), HB1.out⟩
  refine (hasB_ (v := me) true W1 (HT.out.below_ HB1.out) (decide_eq_true d1)).mono ?_
  rintro e wq ⟨rfl, hw⟩
  rw [hw]
  clear hw wq
  have HD1 := Lib.hid d1
  clear d1
  have y1 := HKp.out.cell 1
  have y2 := HKp.out.cell 2
  have y3 := HKp.out.cell 3
  have y4 := HKp.out.cell 4
  have y5 := HKp.out.cell 5
  go_wp2_with fail
  refine (HOb.out W1 HD1.out.1 HD1.out.2 HB1.out).mono ?_
  rintro e V1 ⟨t1, rfl, hi1, hb1⟩
  have HI1 := Lib.hid hi1
  have HBn1 : Hid (Below w.heap.size w V1) := Lib.hid (HB1.out.trans (hb1.mono HB1.out.size))
  have HKn1 := Lib.hid (HKp.out.below hb1 HKp.out.lt)
  clear hi1 hb1 y0 y1 y2 y3 y4 y5
  have y0 := HKn1.out.cell 0
  have y1 := HKn1.out.cell 1
  have y2 := HKn1.out.cell 2
  have y3 := HKn1.out.cell 3
  have y4 := HKn1.out.cell 4
  have y5 := HKn1.out.cell 5
  cases t1 with
  | false =>
    have hrf : t = false := HF.out (fun h => by have := HI1.out.2 h.2.1; cases this)
    go_wp2_with fail
    go_ret
    exact ⟨by first | rfl | (rw [hrf]; rfl), HBn1.out⟩
  | true =>
  have HP1 := Lib.hid (HI1.out.1 rfl)
  go_wp2_with fail
  refine (HEd.out V1 HBn1.out).mono ?_
  rintro e V2 ⟨t2, rfl, hi2, hb2⟩
  have HI2 := Lib.hid hi2
  have HBn2 : Hid (Below w.heap.size w V2) := Lib.hid (HBn1.out.trans (hb2.mono HBn1.out.size))
  have HKn2 := Lib.hid (HKn1.out.below hb2 HKn1.out.lt)
  clear hi2 hb2 y0 y1 y2 y3 y4 y5
  have y0 := HKn2.out.cell 0
  have y1 := HKn2.out.cell 1
  have y2 := HKn2.out.cell 2
  have y3 := HKn2.out.cell 3
  have y4 := HKn2.out.cell 4
  have y5 := HKn2.out.cell 5
  cases t2 with
  | false =>
    have hrf : t = false := HF.out (fun h => by have := HI2.out.2 h.2.2.1; cases this)
    go_wp2_with fail
    go_ret
    exact ⟨by first | rfl | (rw [hrf]; rfl), HBn2.out⟩
  | true =>
  have HP2 := Lib.hid (HI2.out.1 rfl)
  go_wp2_with fail
  refine (HLo.out V2 HBn2.out).mono ?_
  rintro e V3 ⟨t3, rfl, hi3, hb3⟩
  have HI3 := Lib.hid hi3
  have HBn3 : Hid (Below w.heap.size w V3) := Lib.hid (HBn2.out.trans (hb3.mono HBn2.out.size))
  have HKn3 := Lib.hid (HKn2.out.below hb3 HKn2.out.lt)
  clear hi3 hb3 y0 y1 y2 y3 y4 y5
  have y0 := HKn3.out.cell 0
  have y1 := HKn3.out.cell 1
  have y2 := HKn3.out.cell 2
  have y3 := HKn3.out.cell 3
  have y4 := HKn3.out.cell 4
  have y5 := HKn3.out.cell 5
  cases t3 with
  | false =>
    have hrf : t = false := HF.out (fun h => by have := HI3.out.2 h.2.2.2.1; cases this)
    go_wp2_with fail
    go_ret
    exact ⟨by first | rfl | (rw [hrf]; rfl), HBn3.out⟩
  | true =>
  have HP3 := Lib.hid (HI3.out.1 rfl)
  go_wp2_with fail
  refine (HOp.out V3 HBn3.out).mono ?_
  rintro e V4 ⟨rfl, hb4⟩
  have HB4 : Hid (Below w.heap.size w V4) := Lib.hid (HBn3.out.trans (hb4.mono HBn3.out.size))
  clear hb4 y0 y1 y2 y3 y4 y5
  rw [HSum.out HP1.out]
  obtain ⟨sm, hsm⟩ : ∃ sm : Nat, sm = sumK (StL.v ⟨me, os, ⟨A, n, c⟩, es, ⟨A', n', c'⟩, q, as_, ⟨Aa, na, ca⟩, gs, ⟨Ag, ng, cg⟩⟩).os := ⟨_, rfl⟩
  rw [← hsm]
  have HS := Lib.hid hsm
  clear hsm
  by_cases d4 : sm ≤ 8
  case neg =>
    have hrf : t = false := HF.out (fun h => d4 (by rw [HS.out]; exact h.2.2.2.2))
    have t4 : decide ((sm : Int) ≤ 8) = false := by simp; omega
    clear d4
    go_wp2_with fail
    go_ret
    exact ⟨by first | rfl | (rw [hrf]; rfl), HB4.out⟩
  have hrt : t = true := HIff.out.2 ⟨HD1.out, HP1.out, HP2.out, HP3.out, by rw [HS.out] at d4; exact d4⟩
  have t4 : decide ((sm : Int) ≤ 8) = true := by simp; omega
  clear d4
  go_wp2_with fail
  go_ret
  exact ⟨by first | rfl | (rw [hrt]; rfl), HB4.out⟩
set_option maxHeartbeats 4000000 in
theorem goodZ : StGoodZ := by
  intro s w hin
  obtain ⟨me, os, ⟨A, n, c⟩, es, ⟨A', n', c'⟩, q, as_, ⟨Aa, na, ca⟩, gs, ⟨Ag, ng, cg⟩⟩ := s
  have L1 : Hid (os.length = n) := Lib.hid hin.os.len
  have L2 : Hid (es.length = n') := Lib.hid hin.es.len
  have L3 : Hid (as_.length = na) := Lib.hid hin.as_.len
  have L4 : Hid (gs.length = ng) := Lib.hid hin.gs.len
  have b1 : n * 40 ≤ 140737488351232 := hin.os.few
  have b2 : n' * 48 ≤ 140737488351232 := hin.es.few
  have b3 : na * 16 ≤ 140737488351232 := hin.as_.few
  have b4 : ng * 24 ≤ 140737488351232 := hin.gs.few
  have k1 : n ≤ c := hin.os.cap
  have k2 : n' ≤ c' := hin.es.cap
  have k3 : na ≤ ca := hin.as_.cap
  have k4 : ng ≤ cg := hin.gs.cap
  clear hin
  show Calls Try.prog 16 #[.pointer none, .agg #[.int .i64 me, .slice A n c, .slice A' n' c', .int .i64 q, .slice Aa na ca, .slice Ag ng cg]] w _
  obtain ⟨p, hp⟩ : ∃ p, p = w.heap.size := ⟨_, rfl⟩
  obtain ⟨W1, hW1⟩ : ∃ W1, W1 = w.alloc (.cells #[.int .i64 me, .slice A n c, .slice A' n' c', .int .i64 q, .slice Aa na ca, .slice Ag ng cg] 30) := ⟨_, rfl⟩
  have HB1 : Hid (Below w.heap.size w W1) := Lib.hid (hW1 ▸ (Below.refl _ _).alloc (Nat.le_refl _) _)
  have HKp : Hid (Blk W1 p 30 #[.int .i64 me, .slice A n c, .slice A' n' c', .int .i64 q, .slice Aa na ca, .slice Ag ng cg]) := Lib.hid (by rw [hW1, hp]; exact Blk.new w _ _)
  have y0 := HKp.out.cell 0
  go_enter Try.func16, Try.ntmps16
  go_wp2_with fail
  rw [← hW1, ← hp]
  clear hW1 hp
  refine (shas_nil me W1).mono ?_
  rintro e wq ⟨rfl, hw⟩
  rw [hw]
  clear hw wq
  go_wp2_with fail
  go_ret
  exact ⟨by first | rfl | (rw [hrf]; rfl), HB1.out⟩
end Go.Proofs.Ytcicpgiljceioaa.Pk
