/- The landed Good of package state. -/
import Derived.Test.YtcicpgiljceioaaZStGoodLoc
import Derived.Test.YtcicpgiljceioaaZStVal
import Derived.Outline
import Derived.Test.YtcicpgiljceioaaZWiRef
import Derived.Deep.QuietTactic
import Derived.BigQuiet
namespace Go.Proofs.Ytcicpgiljceioaa.Pk
open Go.RowKit Go.Proofs.Ytcicpgiljceioaa.Gr
set_option linter.unusedVariables false
attribute [local go_sem] Oper.semAt_some
theorem goodS_iff {ps : List Int} {s : St} : GoodS ps s ↔ (0 ≤ s.me ∧ s.me < (ps.length : Int)) ∧ ObjsOk ps s ∧ EdgesOk ps s ∧ LocOk ps s ∧ sumK s.os ≤ 8 :=
  ⟨fun h => ⟨h.me, ⟨h.many, h.os⟩, ⟨h.ps_, h.es⟩, ⟨h.q, h.an, h.gn, h.as_, h.gs⟩, h.few⟩, fun h => ⟨h.1, h.2.1.1, h.2.1.2, h.2.2.1.1, h.2.2.1.2, h.2.2.2.1.1, h.2.2.2.1.2.1, h.2.2.2.1.2.2.1, h.2.2.2.1.2.2.2.1, h.2.2.2.1.2.2.2.2, h.2.2.2.2⟩⟩
set_option maxRecDepth 100000 in
set_option maxHeartbeats 8000000 in
theorem goodS : StGoodP := by
  intro T g ps s w htr G hin
  obtain ⟨t, ht⟩ := bool_of (GoodS ps s.v)
  have HTt := Lib.hid ht
  clear ht
  suffices hh : Calls Try.prog 16 #[.pointer (some ⟨T, 0, none⟩), s.val] w fun e w' => e = .returned (.bool t) ∧ Below w.heap.size w w' from hh.mono fun e w' h => ⟨t, h.1, HTt.out, h.2⟩
  have HIff := Lib.hid (HTt.out.trans goodS_iff)
  have HF := Lib.hid (fun h => not_of HIff.out h)
  have HI := Lib.hid hin
  have HT := Lib.hid htr
  have HG := Lib.hid G
  have HOb := Lib.hid (fun W h0 h1 (hW : Below w.heap.size w W) => goodObjs_any T g ps s W (htr.below_ hW) G h0 h1 (hin.next hW))
  have HEd := Lib.hid (fun W (hW : Below w.heap.size w W) => goodEdges_any T g ps s W (htr.below_ hW) G (hin.next hW))
  have HLo := Lib.hid (fun W (hW : Below w.heap.size w W) => goodLoc_any T g ps s W (htr.below_ hW) (hin.next hW))
  have HOp := Lib.hid (fun W (hW : Below w.heap.size w W) => openS s W (hin.next hW))
  have HSum : Hid (ObjsOk ps s.v → openW s.v.os = (sumK s.v.os : Int)) := Lib.hid (fun h => by
    have hm := h.1
    simp only [StL.v, List.length_map] at hm
    refine open_is s.os _ rfl hm.2 (fun x hx => ?_)
    have h1 := (hin.o x hx).c.len
    have h2 : x.s.n * 32 ≤ 140737488351232 := (hin.o x hx).c.few
    omega)
  obtain ⟨me, os, ⟨A, n, c⟩, es, ⟨A', n', c'⟩, q, as_, ⟨Aa, na, ca⟩, gs, ⟨Ag, ng, cg⟩⟩ := s
  have L1 : Hid (os.length = n) := Lib.hid HI.out.os.len
  have L2 : Hid (es.length = n') := Lib.hid HI.out.es.len
  have L3 : Hid (as_.length = na) := Lib.hid HI.out.as_.len
  have L4 : Hid (gs.length = ng) := Lib.hid HI.out.gs.len
  have b1 : n * 40 ≤ 140737488351232 := HI.out.os.few
  have b2 : n' * 48 ≤ 140737488351232 := HI.out.es.few
  have b3 : na * 16 ≤ 140737488351232 := HI.out.as_.few
  have b4 : ng * 24 ≤ 140737488351232 := HI.out.gs.few
  have k1 : n ≤ c := HI.out.os.cap
  have k2 : n' ≤ c' := HI.out.es.cap
  have k3 : na ≤ ca := HI.out.as_.cap
  have k4 : ng ≤ cg := HI.out.gs.cap
  clear hin htr G HTt
  simp only [StL.val, Sl.val] at HOb HEd HLo HOp
  show Calls Try.prog 16 #[.pointer (some ⟨T, 0, none⟩), .agg #[.int .i64 me, .slice A n c, .slice A' n' c', .int .i64 q, .slice Aa na ca, .slice Ag ng cg]] w _
  obtain ⟨p, hp⟩ : ∃ p, p = w.heap.size := ⟨_, rfl⟩
  obtain ⟨W1, hW1⟩ : ∃ W1, W1 = w.alloc (.cells #[.int .i64 me, .slice A n c, .slice A' n' c', .int .i64 q, .slice Aa na ca, .slice Ag ng cg] 30) := ⟨_, rfl⟩
  have HB1 : Hid (Below w.heap.size w W1) := Lib.hid (hW1 ▸ (Below.refl _ _).alloc (Nat.le_refl _) _)
  have HKp : Hid (Blk W1 p 30 #[.int .i64 me, .slice A n c, .slice A' n' c', .int .i64 q, .slice Aa na ca, .slice Ag ng cg]) := Lib.hid (by rw [hW1, hp]; exact Blk.new w _ _)
  have y0 := HKp.out.cell 0
  go_enter Try.func16, Try.ntmps16
  go_wp2_with fail
  rw [← hW1, ← hp]
  clear hW1 hp
  by_cases d1 : 0 ≤ me ∧ me < (ps.length : Int)
  case neg =>
    have hrf : t = false := HF.out (fun h => d1 h.1)
    refine (hasB_ (v := me) false W1 (HT.out.below_ HB1.out) (decide_eq_false d1)).mono ?_
    rintro e wq ⟨rfl, hw⟩
    rw [hw]
    clear hw wq
    clear d1
    go_wp2_with fail
    go_ret
    exact ⟨by first | rfl | (rw [hrf]; rfl), HB1.out⟩
  refine (hasB_ (v := me) true W1 (HT.out.below_ HB1.out) (decide_eq_true d1)).mono ?_
  rintro e wq ⟨rfl, hw⟩
  rw [hw]
  clear hw wq
  have HD1 := Lib.hid d1
  clear d1
  have y1 := HKp.out.cell 1
  have y2 := HKp.out.cell 2
  have y3 := HKp.out.cell 3
  have y4 := HKp.out.cell 4
  have y5 := HKp.out.cell 5
  go_wp2_with fail
  refine (HOb.out W1 HD1.out.1 HD1.out.2 HB1.out).mono ?_
  rintro e V1 ⟨t1, rfl, hi1, hb1⟩
  have HI1 := Lib.hid hi1
  have HBn1 : Hid (Below w.heap.size w V1) := Lib.hid (HB1.out.trans (hb1.mono HB1.out.size))
  have HKn1 := Lib.hid (HKp.out.below hb1 HKp.out.lt)
  clear hi1 hb1 y0 y1 y2 y3 y4 y5
  have y0 := HKn1.out.cell 0
  have y1 := HKn1.out.cell 1
  have y2 := HKn1.out.cell 2
  have y3 := HKn1.out.cell 3
  have y4 := HKn1.out.cell 4
  have y5 := HKn1.out.cell 5
  cases t1 with
  | false =>
    have hrf : t = false := HF.out (fun h => by have := HI1.out.2 h.2.1; cases this)
    go_wp2_with fail
    go_ret
    exact ⟨by first | rfl | (rw [hrf]; rfl), HBn1.out⟩
  | true =>
  have HP1 := Lib.hid (HI1.out.1 rfl)
  go_wp2_with fail
  refine (HEd.out V1 HBn1.out).mono ?_
  rintro e V2 ⟨t2, rfl, hi2, hb2⟩
  have HI2 := Lib.hid hi2
  have HBn2 : Hid (Below w.heap.size w V2) := Lib.hid (HBn1.out.trans (hb2.mono HBn1.out.size))
  have HKn2 := Lib.hid (HKn1.out.below hb2 HKn1.out.lt)
  clear hi2 hb2 y0 y1 y2 y3 y4 y5
  have y0 := HKn2.out.cell 0
  have y1 := HKn2.out.cell 1
  have y2 := HKn2.out.cell 2
  have y3 := HKn2.out.cell 3
  have y4 := HKn2.out.cell 4
  have y5 := HKn2.out.cell 5
  cases t2 with
  | false =>
    have hrf : t = false := HF.out (fun h => by have := HI2.out.2 h.2.2.1; cases this)
    go_wp2_with fail
    go_ret
    exact ⟨by first | rfl | (rw [hrf]; rfl), HBn2.out⟩
  | true =>
  have HP2 := Lib.hid (HI2.out.1 rfl)
  go_wp2_with fail
  refine (HLo.out V2 HBn2.out).mono ?_
  rintro e V3 ⟨t3, rfl, hi3, hb3⟩
  have HI3 := Lib.hid hi3
  have HBn3 : Hid (Below w.heap.size w V3) := Lib.hid (HBn2.out.trans (hb3.mono HBn2.out.size))
  have HKn3 := Lib.hid (HKn2.out.below hb3 HKn2.out.lt)
  clear hi3 hb3 y0 y1 y2 y3 y4 y5
  have y0 := HKn3.out.cell 0
  have y1 := HKn3.out.cell 1
  have y2 := HKn3.out.cell 2
  have y3 := HKn3.out.cell 3
  have y4 := HKn3.out.cell 4
  have y5 := HKn3.out.cell 5
  cases t3 with
  | false =>
    have hrf : t = false := HF.out (fun h => by have := HI3.out.2 h.2.2.2.1; cases this)
    go_wp2_with fail
    go_ret
    exact ⟨by first | rfl | (rw [hrf]; rfl), HBn3.out⟩
  | true =>
  have HP3 := Lib.hid (HI3.out.1 rfl)
  go_wp2_with fail
  refine (HOp.out V3 HBn3.out).mono ?_
  rintro e V4 ⟨rfl, hb4⟩
  have HB4 : Hid (Below w.heap.size w V4) := Lib.hid (HBn3.out.trans (hb4.mono HBn3.out.size))
  clear hb4 y0 y1 y2 y3 y4 y5
  rw [HSum.out HP1.out]
  obtain ⟨sm, hsm⟩ : ∃ sm : Nat, sm = sumK (StL.v ⟨me, os, ⟨A, n, c⟩, es, ⟨A', n', c'⟩, q, as_, ⟨Aa, na, ca⟩, gs, ⟨Ag, ng, cg⟩⟩).os := ⟨_, rfl⟩
  rw [← hsm]
  have HS := Lib.hid hsm
  clear hsm
  by_cases d4 : sm ≤ 8
  case neg =>
    have hrf : t = false := HF.out (fun h => d4 (by rw [HS.out]; exact h.2.2.2.2))
    have t4 : decide ((sm : Int) ≤ 8) = false := by simp; omega
    clear d4
    go_wp2_with fail
    go_ret
    exact ⟨by first | rfl | (rw [hrf]; rfl), HB4.out⟩
  have hrt : t = true := HIff.out.2 ⟨HD1.out, HP1.out, HP2.out, HP3.out, by rw [HS.out] at d4; exact d4⟩
  have t4 : decide ((sm : Int) ≤ 8) = true := by simp; omega
  clear d4
  go_wp2_with fail
  go_ret
  exact ⟨by first | rfl | (rw [hrt]; rfl), HB4.out⟩
set_option maxHeartbeats 4000000 in
theorem goodZ : StGoodZ := by
  intro s w hin
  obtain ⟨me, os, ⟨A, n, c⟩, es, ⟨A', n', c'⟩, q, as_, ⟨Aa, na, ca⟩, gs, ⟨Ag, ng, cg⟩⟩ := s
  have L1 : Hid (os.length = n) := Lib.hid hin.os.len
  have L2 : Hid (es.length = n') := Lib.hid hin.es.len
  have L3 : Hid (as_.length = na) := Lib.hid hin.as_.len
  have L4 : Hid (gs.length = ng) := Lib.hid hin.gs.len
  have b1 : n * 40 ≤ 140737488351232 := hin.os.few
  have b2 : n' * 48 ≤ 140737488351232 := hin.es.few
  have b3 : na * 16 ≤ 140737488351232 := hin.as_.few
  have b4 : ng * 24 ≤ 140737488351232 := hin.gs.few
  have k1 : n ≤ c := hin.os.cap
  have k2 : n' ≤ c' := hin.es.cap
  have k3 : na ≤ ca := hin.as_.cap
  have k4 : ng ≤ cg := hin.gs.cap
  clear hin
  show Calls Try.prog 16 #[.pointer none, .agg #[.int .i64 me, .slice A n c, .slice A' n' c', .int .i64 q, .slice Aa na ca, .slice Ag ng cg]] w _
  obtain ⟨p, hp⟩ : ∃ p, p = w.heap.size := ⟨_, rfl⟩
  obtain ⟨W1, hW1⟩ : ∃ W1, W1 = w.alloc (.cells #[.int .i64 me, .slice A n c, .slice A' n' c', .int .i64 q, .slice Aa na ca, .slice Ag ng cg] 30) := ⟨_, rfl⟩
  have HB1 : Hid (Below w.heap.size w W1) := Lib.hid (hW1 ▸ (Below.refl _ _).alloc (Nat.le_refl _) _)
  have HKp : Hid (Blk W1 p 30 #[.int .i64 me, .slice A n c, .slice A' n' c', .int .i64 q, .slice Aa na ca, .slice Ag ng cg]) := Lib.hid (by rw [hW1, hp]; exact Blk.new w _ _)
  have y0 := HKp.out.cell 0
  go_enter Try.func16, Try.ntmps16
  go_wp2_with fail
  rw [← hW1, ← hp]
  clear hW1 hp
  refine (shas_nil me W1).mono ?_
  rintro e wq ⟨rfl, hw⟩
  rw [hw]
  clear hw wq
  go_wp2_with fail
  go_ret
  exact ⟨by first | rfl | (rw [hrf]; rfl), HB1.out⟩
end Go.Proofs.Ytcicpgiljceioaa.Pk

/- Two messages compared. -/
namespace Go.Proofs.Ytcicpgiljceioaa.Pk
open Go.RowKit
set_option linter.unusedVariables false
section
attribute [local go_sem] Oper.semAt_some
set_option maxHeartbeats 4000000 in
theorem eq_msg (a b c d e a' b' c' d' e' : Int) (w : World) : (Op.equalIn 10000 45 (.agg #[.int .i64 a, .int .i64 b, .int .i64 c, .int .i64 d, .int .i64 e]) (.agg #[.int .i64 a', .int .i64 b', .int .i64 c', .int .i64 d', .int .i64 e'])).run Try.prog w = .ok (decide ((⟨a, b, c, d, e⟩ : Mg) = ⟨a', b', c', d', e'⟩)) w := by
  have u3 := Try.underlying3
  have a3 := Try.isAgg3
  have z3 := Try.sizeOf3
  have hst : Try.prog.stoodInHeld 45 = false := by kernel_rfl
  rw [show (10000 : Nat) = 9999 + 1 from rfl, Op.equalIn]
  simp only [Sem.run_bind, run_underlying Try.underlying45, Result.andThen_ok]
  go_simp
  by_cases h1 : a = a' <;> by_cases h2 : b = b' <;> by_cases h3 : c = c' <;> by_cases h4 : d = d' <;> by_cases h5 : e = e' <;> simp [h1, h2, h3, h4, h5]
end
end Go.Proofs.Ytcicpgiljceioaa.Pk

/- The document's 'Same': two sides are the same. -/
namespace Go.Proofs.Ytcicpgiljceioaa.Pk
open Go.RowKit
set_option linter.unusedVariables false
theorem below_drewN_ {B : Nat} {a w : World} (h : Below B a w) (n : Nat) : Below B a (w.drewN n) := ⟨h.os, h.tape, h.output, h.size, h.block⟩
/-- The first k messages of both are the same. -/
def AlikeH (l r : List Mg) (k : Nat) : Prop := ∀ j, j < k → l[j]? = r[j]?
theorem alikeH_all {l r : List Mg} (h : AlikeH l r l.length) (hl : l.length = r.length) : l = r := by
  apply List.ext_getElem? 
  intro i
  rcases Nat.lt_or_ge i l.length with h1 | h1
  · exact h i h1
  · rw [List.getElem?_eq_none h1, List.getElem?_eq_none (by omega)]
theorem alikeH_succ {l r : List Mg} {k : Nat} (h : AlikeH l r k) (e : l[k]? = r[k]?) : AlikeH l r (k + 1) := by
  intro j hj
  rcases Nat.lt_or_ge j k with h1 | h1
  · exact h j h1
  · obtain rfl : j = k := by omega
    exact e
set_option maxRecDepth 100000 in
set_option maxHeartbeats 4000000 in
theorem sameH (h h' : Hf) (A A' : Option Addr) (n c n' c' : Nat) (w : World) (hl : Reads w w.heap.size 5 A n (mgs h.o)) (hr : Reads w w.heap.size 5 A' n' (mgs h'.o)) (hn : n ≤ 4611686018427387904) :
    Calls Try.prog 33 #[h.val (.slice A n c), h'.val (.slice A' n' c')] w fun e w' => e = .returned (.bool (decide (h = h'))) ∧ Below w.heap.size w w' := by
  have HL : Hid (h.o.length = n) := Lib.hid hl.mlen
  have HR : Hid (h'.o.length = n') := Lib.hid hr.mlen
  obtain ⟨p, b, o, s⟩ := h
  obtain ⟨p2, b2, o2, s2⟩ := h'
  unfold Hf.val
  simp only at hl hr HL HR ⊢
  have HB1 : Hid (Below w.heap.size w ((w.alloc (.cells #[.int .i64 p, .int .i64 b, .slice A n c, .int .i64 s] 60)).alloc (.cells #[.int .i64 p2, .int .i64 b2, .slice A' n' c', .int .i64 s2] 60))) := Lib.hid (((Below.refl _ _).alloc (Nat.le_refl _) _).alloc (by simp) _)
  obtain ⟨res, hres⟩ : ∃ res, res = decide ((⟨p, b, o, s⟩ : Hf) = ⟨p2, b2, o2, s2⟩) := ⟨_, rfl⟩
  rw [← hres]
  by_cases h1 : p = p2
  case neg =>
    have HS : Hid (res = false) := Lib.hid (by rw [hres]; simp [h1])
    have t1 : (p != p2) = true := by simp [h1]
    clear h1 hres
    go_enter Try.func33, Try.ntmps33
    go_wp2
    go_ret
    exact ⟨by rw [HS.out]; rfl, HB1.out⟩
  case pos =>
  by_cases h2 : b = b2
  case neg =>
    have HS : Hid (res = false) := Lib.hid (by rw [hres]; simp [h2])
    have t1 : (p != p2) = false := by simp [h1]
    have t2 : (b != b2) = true := by simp [h2]
    clear h1 h2 hres
    go_enter Try.func33, Try.ntmps33
    go_wp2
    go_ret
    exact ⟨by rw [HS.out]; rfl, HB1.out⟩
  case pos =>
  by_cases h3 : s = s2
  case neg =>
    have HS : Hid (res = false) := Lib.hid (by rw [hres]; simp [h3])
    have t1 : (p != p2) = false := by simp [h1]
    have t2 : (b != b2) = false := by simp [h2]
    have t3 : (s != s2) = true := by simp [h3]
    clear h1 h2 h3 hres
    go_enter Try.func33, Try.ntmps33
    go_wp2
    go_ret
    exact ⟨by rw [HS.out]; rfl, HB1.out⟩
  case pos =>
  by_cases h4 : n = n'
  case neg =>
    have HS : Hid (res = false) := Lib.hid (by rw [hres]; simp; intro _ _ e; exact absurd (by rw [← HL.out, ← HR.out, e]) h4)
    have t1 : (p != p2) = false := by simp [h1]
    have t2 : (b != b2) = false := by simp [h2]
    have t3 : (s != s2) = false := by simp [h3]
    have t4 : ((n : Int) != (n' : Int)) = true := by simp; omega
    clear h1 h2 h3 h4 hres
    go_enter Try.func33, Try.ntmps33
    go_wp2
    go_ret
    exact ⟨by rw [HS.out]; rfl, HB1.out⟩
  case pos =>
  have t1 : (p != p2) = false := by simp [h1]
  have t2 : (b != b2) = false := by simp [h2]
  have t3 : (s != s2) = false := by simp [h3]
  have t4 : ((n : Int) != (n' : Int)) = false := by simp; omega
  subst h1; subst h2; subst h3; subst h4
  have HRs : Hid (res = decide (o = o2)) := Lib.hid (by rw [hres]; simp)
  clear hres
  obtain ⟨x1, hx1⟩ : ∃ x, x = w.heap.size := ⟨_, rfl⟩
  obtain ⟨x2, hx2⟩ : ∃ x, x = x1 + 1 := ⟨_, rfl⟩
  obtain ⟨wa, hwa⟩ : ∃ wa, wa = w.alloc (.cells #[.int .i64 p, .int .i64 b, .slice A n c, .int .i64 s] 60) := ⟨_, rfl⟩
  obtain ⟨w1, hw1⟩ : ∃ w1, w1 = wa.alloc (.cells #[.int .i64 p, .int .i64 b, .slice A' n c', .int .i64 s] 60) := ⟨_, rfl⟩
  have hsa : wa.heap.size = x1 + 1 := by rw [hwa, World.size_alloc, hx1]
  have hba : Below w.heap.size w wa := hwa ▸ (Below.refl _ _).alloc (Nat.le_refl _) _
  have hb1 : Below w.heap.size w w1 := hw1 ▸ hba.alloc (by omega) _
  have HBw := Lib.hid hb1
  have k1 : Blk w1 x1 60 #[.int .i64 p, .int .i64 b, .slice A n c, .int .i64 s] := by rw [hw1, hwa, hx1]; exact (Blk.new w _ _).alloc _
  have k2 : Blk w1 x2 60 #[.int .i64 p, .int .i64 b, .slice A' n c', .int .i64 s] := by rw [hw1, hx2, ← hsa]; exact Blk.new wa _ _
  have RL := Lib.hid ((hl.below hb1))
  have RR := Lib.hid ((hr.below hb1))
  have c10 : w1.cell? ⟨x1, 0, none⟩ = some (.int .i64 p) := k1.cell 0
  have c11 : w1.cell? ⟨x1, 1, none⟩ = some (.int .i64 b) := k1.cell 1
  have c12 : w1.cell? ⟨x1, 2, none⟩ = some (.slice A n c) := k1.cell 2
  have c13 : w1.cell? ⟨x1, 3, none⟩ = some (.int .i64 s) := k1.cell 3
  have c20 : w1.cell? ⟨x2, 0, none⟩ = some (.int .i64 p) := k2.cell 0
  have c21 : w1.cell? ⟨x2, 1, none⟩ = some (.int .i64 b) := k2.cell 1
  have c22 : w1.cell? ⟨x2, 2, none⟩ = some (.slice A' n c') := k2.cell 2
  have c23 : w1.cell? ⟨x2, 3, none⟩ = some (.int .i64 s) := k2.cell 3
  have HC2 := Lib.hid c12
  have HC5 := Lib.hid c22
  clear hl hr hb1 hba k1 k2 HB1
  go_enter Try.func33, Try.ntmps33
  go_wp2
  rw [← hwa, ← hw1, ← hx1, ← hx2]
  clear hwa hw1 hx1 hx2 hsa
  go_loopw [5, 37] (fun i j wr => ∃ (k q : Nat), j = .int .i64 k ∧ k ≤ n ∧ AlikeH o o2 k ∧ wr = w1.drewN q) (fun _ j _ => n - (intOf j).toNat)
  case atStart => exact ⟨0, 0, rfl, by omega, fun j hj => by omega, rfl⟩
  case round =>
    obtain ⟨k, q, rfl, hk, ht, rfl⟩ := hrel
    have HT := Lib.hid ht
    clear ht
    by_cases hlt : k < n
    · obtain ⟨g, off, rfl, hbb, hc⟩ := RL.out.mgs_ (by omega)
      obtain ⟨g', off', rfl, hbb', hc'⟩ := RR.out.mgs_ (by omega)
      have hm1 : o[k]? = some (o[k]'(by have := HL.out; omega)) := List.getElem?_eq_getElem (by have := HL.out; omega)
      have hm2 : o2[k]? = some (o2[k]'(by have := HR.out; omega)) := List.getElem?_eq_getElem (by have := HR.out; omega)
      obtain ⟨m1, hm1'⟩ : ∃ m, m = o[k]'(by have := HL.out; omega) := ⟨_, rfl⟩
      obtain ⟨m2, hm2'⟩ : ∃ m, m = o2[k]'(by have := HR.out; omega) := ⟨_, rfl⟩
      rw [← hm1'] at hm1
      rw [← hm2'] at hm2
      clear hm1' hm2'
      obtain ⟨d0, d1, d2, d3, d4⟩ := hc k m1 hm1
      obtain ⟨e0, e1, e2, e3, e4⟩ := hc' k m2 hm2
      obtain ⟨a0, a1, a2, a3, a4⟩ := m1
      obtain ⟨b0, b1, b2, b3, b4⟩ := m2
      have HM1 := Lib.hid hm1
      have HM2 := Lib.hid hm2
      clear hc hc' hm1 hm2
      have ke : ∀ W : World, (Op.equalIn 10000 45 (.agg #[.int .i64 a0, .int .i64 a1, .int .i64 a2, .int .i64 a3, .int .i64 a4]) (.agg #[.int .i64 b0, .int .i64 b1, .int .i64 b2, .int .i64 b3, .int .i64 b4])).run Try.prog W = .ok (decide ((⟨a0, a1, a2, a3, a4⟩ : Mg) = ⟨b0, b1, b2, b3, b4⟩)) W := fun W => eq_msg _ _ _ _ _ _ _ _ _ _ W
      by_cases hmm : (⟨a0, a1, a2, a3, a4⟩ : Mg) = ⟨b0, b1, b2, b3, b4⟩
      · have HE : Hid (o[k]? = o2[k]?) := Lib.hid (by rw [HM1.out, HM2.out, hmm])
        have ke2 : ∀ W : World, (Op.equalIn 10000 45 (.agg #[.int .i64 a0, .int .i64 a1, .int .i64 a2, .int .i64 a3, .int .i64 a4]) (.agg #[.int .i64 b0, .int .i64 b1, .int .i64 b2, .int .i64 b3, .int .i64 b4])).run Try.prog W = .ok true W := fun W => by rw [ke, decide_eq_true hmm]
        clear ke hmm
        go_wp2
        go_quiet (fail)
        go_wp2
        go_roundw
        case rel => exact ⟨k + 1, _, by go_num, by omega, alikeH_succ HT.out HE.out, rfl⟩
        case measure => simp [intOf]; omega
      · have HE : Hid (res = false) := Lib.hid (by rw [HRs.out]; refine decide_eq_false (fun e => hmm ?_); have := HM1.out; rw [e, HM2.out] at this; injection this with this; exact this.symm)
        have ke2 : ∀ W : World, (Op.equalIn 10000 45 (.agg #[.int .i64 a0, .int .i64 a1, .int .i64 a2, .int .i64 a3, .int .i64 a4]) (.agg #[.int .i64 b0, .int .i64 b1, .int .i64 b2, .int .i64 b3, .int .i64 b4])).run Try.prog W = .ok false W := fun W => by rw [ke, decide_eq_false hmm]
        clear ke hmm
        go_wp2
        go_quiet (fail)
        go_wp2
        go_ret
        exact ⟨by rw [HE.out]; rfl, below_drewN_ (below_drewN_ HBw.out _) _⟩
    · have HE : Hid (res = true) := Lib.hid (by
        have : k = n := by omega
        subst this
        rw [HRs.out, decide_eq_true_eq]
        exact alikeH_all (by rw [HL.out]; exact HT.out) (by rw [HL.out, HR.out]))
      go_wp2
      go_ret
      exact ⟨by rw [HE.out]; rfl, below_drewN_ HBw.out _⟩
end Go.Proofs.Ytcicpgiljceioaa.Pk
