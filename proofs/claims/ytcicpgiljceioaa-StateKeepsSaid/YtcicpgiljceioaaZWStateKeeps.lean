/- The walk of the law StateKeeps. -/
import Derived.Test.YtcicpgiljceioaaZStSpoil
import Derived.Test.YtcicpgiljceioaaZStSpoilt
import Derived.Test.YtcicpgiljceioaaZStCopy
import Derived.Test.YtcicpgiljceioaaZStSame
import Derived.Test.YtcicpgiljceioaaZStHomes
import Derived.Test.YtcicpgiljceioaaZNumApp
import Derived.Test.YtcicpgiljceioaaZRange
import Derived.Test.YtcicpgiljceioaaZStArgN
import Derived.Deep.QuietTactic
namespace Go.Proofs.Ytcicpgiljceioaa.Pk
open Go.RowKit Go.Proofs.Ytcicpgiljceioaa.Gr Go.Proofs.Ytcicpgiljceioaa.Ar
set_option linter.unusedVariables false
attribute [local go_sem] Oper.semAt_some
theorem stB_in {w : World} {B : Nat} {s : StL} (h : OwnS w B s) {g : Nat} (hg : stB s g) : B ≤ g ∧ g < w.heap.size := by
  obtain ⟨v, hv, e⟩ := hg
  rcases List.mem_append.1 hv with hv | hv
  · exact ⟨h.os.over v hv g e, h.os.under v hv g e⟩
  · rcases List.mem_append.1 hv with hv | hv
    · exact ⟨h.es.over v hv g e, h.es.under v hv g e⟩
    · rcases List.mem_cons.1 hv with rfl | hv
      · exact ⟨h.as_.base g e, h.as_.lt g e⟩
      · rw [List.mem_singleton.1 hv] at e; exact ⟨h.gs.base g e, h.gs.lt g e⟩
theorem own_someN {w : World} {B : Nat} {v : Value} {l : List Int} (h : OwnN w B v l) (hl : 0 < l.length) : ∃ g c, v = .slice (some ⟨g, 0, none⟩) l.length c ∧ l.length ≤ c := by
  obtain ⟨h1, ⟨e, h0⟩ | ⟨g, cap, cur, e, hb, hh, h3, _⟩⟩ := h
  · omega
  · exact ⟨g, cap, e, h3⟩
theorem reads_takeN {w : World} {B n k : Nat} {A : Option Addr} {l r : List Int} (h : Reads w B 1 A k (nms (l ++ r))) (hl : l.length = n) : Reads w B 1 A n (nms l) := by
  have hk := h.plen
  rw [List.length_append] at hk
  refine ⟨by rw [← hl]; simp [nms], fun hn => ?_⟩
  obtain ⟨ad, e, hb, hc⟩ := h.2 (by omega)
  refine ⟨ad, e, hb, fun j u hj => hc j u ?_⟩
  have hjl := (List.getElem?_eq_some_iff.1 hj).1
  rw [show nms (l ++ r) = nms l ++ nms r by simp [nms], List.getElem?_append_left hjl]
  exact hj
theorem few_zero : FewS St.zero := ⟨⟨by decide, by decide⟩, ⟨by decide, by decide⟩, by decide, by decide, by decide, by decide, fun x hx => (by cases hx), fun x hx => (by cases hx), fun x hx => (by cases hx), fun x hx => (by cases hx)⟩
theorem few_firstE {ps hs : List Int} (G : Gr.Good ps) : FewS (firstE ps hs 0).1 := by
  unfold firstE
  split
  · rename_i h; exact firstS_few G h.2.1 h.2.2 h.1
  · exact few_zero
set_option maxRecDepth 100000 in
set_option maxHeartbeats 16000000 in
theorem law_StateKeeps (HHo : StHomesP) (HFi : StFirstP) (HGo : StGoodP) (HCo : StCopyP) (A : Option Addr) (n c : Nat) (ps : List Int) (A' : Option Addr) (n' c' : Nat) (hs : List Int) (s : StL) (w : World) (hk : ArgN w A n c ps) (hh : ArgN w A' n' c' hs) (hin : InS w s) :
    Calls Try.prog 7 #[.slice A n c, .slice A' n' c', s.val] w fun e w' => e = .returned (.bool true) ∧ Below w.heap.size w w' := by
  have HW := Lib.hid (fun w => wakesS HFi HGo w)
  have HRd := Lib.hid hk.1
  have hn : n ≤ 4611686018427387904 := by have h1 := hk.2.1; have h2 := hk.2.2.1; omega
  have HL : Hid (ps.length = n) := Lib.hid hk.1.plen
  have HRh := Lib.hid hh.1
  have HLh : Hid (hs.length = n') := Lib.hid hh.1.plen
  have hn8 : n' * 8 ≤ 140737488355328 - 8 := by have h1 := hh.2.1; have h2 := hh.2.2.1; omega
  have hcap : n' ≤ c' := hh.2.1
  have HIh : Hid (∀ x ∈ hs, I64 x) := Lib.hid hh.2.2.2
  have HI := Lib.hid hin
  have HFw := Lib.hid hin.few
  have HHo := Lib.hid HHo
  have HFi := Lib.hid HFi
  have HCo := Lib.hid HCo
  clear hk hh hin HGo
  obtain ⟨p, hp⟩ : ∃ p, p = w.heap.size := ⟨_, rfl⟩
  obtain ⟨W1, hW1⟩ : ∃ W1, W1 = w.alloc (.cells s.val.cells 30) := ⟨_, rfl⟩
  have HB1 : Hid (Below w.heap.size w W1) := Lib.hid (hW1 ▸ (Below.refl _ _).alloc (Nat.le_refl _) _)
  have HKp : Hid (Blk W1 p 30 s.val.cells) := Lib.hid (by rw [hW1, hp]; exact Blk.new w _ _)
  obtain ⟨s0, hs0⟩ : ∃ s0, s0 = s := ⟨_, rfl⟩
  have HS0 := Lib.hid hs0
  have HI0 : Hid (InS w s0) := Lib.hid (by rw [hs0]; exact HI.out)
  have HF0 : Hid (FewS s0.v) := Lib.hid (by rw [hs0]; exact HFw.out)
  clear HI HFw hs0
  obtain ⟨me, os, ⟨D1, d1, k1⟩, es, ⟨D2, d2, k2⟩, q, as_, ⟨D3, d3, k3⟩, gs, ⟨D4, d4, k4⟩⟩ := s
  have HSv : Hid (s0.val = .agg #[.int .i64 me, .slice D1 d1 k1, .slice D2 d2 k2, .int .i64 q, .slice D3 d3 k3, .slice D4 d4 k4]) := Lib.hid (by rw [HS0.out]; rfl)
  simp only [StL.val, Sl.val, Value.cells] at HKp hW1 ⊢
  go_enter Try.func7, Try.ntmps7
  go_wp2_with fail
  rw [← hW1, ← hp]
  clear hW1 hp
  refine (HW.out W1).mono ?_
  rintro e w2 ⟨rfl, hb2⟩
  have HB2 : Hid (Below w.heap.size w w2) := Lib.hid (HB1.out.trans (hb2.mono HB1.out.size))
  have HK2 := Lib.hid (HKp.out.below hb2 HKp.out.lt)
  clear hb2
  obtain ⟨y0, y1, y2, y3, y4, y5⟩ : w2.cell? ⟨p, 0, none⟩ = some (.int .i64 me) ∧ w2.cell? ⟨p, 1, none⟩ = some (.slice D1 d1 k1) ∧ w2.cell? ⟨p, 2, none⟩ = some (.slice D2 d2 k2) ∧ w2.cell? ⟨p, 3, none⟩ = some (.int .i64 q) ∧ w2.cell? ⟨p, 4, none⟩ = some (.slice D3 d3 k3) ∧ w2.cell? ⟨p, 5, none⟩ = some (.slice D4 d4 k4) := ⟨HK2.out.cell 0, HK2.out.cell 1, HK2.out.cell 2, HK2.out.cell 3, HK2.out.cell 4, HK2.out.cell 5⟩
  go_wp2_with fail
  clear y0 y1 y2 y3 y4 y5
  have HC1 := Lib.hid (refcopy_any s0 w2 (HI0.out.next HB2.out))
  rw [HSv.out] at HC1
  refine HC1.out.mono ?_
  rintro e w3 ⟨s1, rfl, hv1, ho1, hb3⟩
  clear HC1
  obtain ⟨t1, ht1⟩ : ∃ t, t = s1 := ⟨_, rfl⟩
  have HE1 := Lib.hid ht1
  rw [← ht1] at hv1 ho1
  clear ht1
  obtain ⟨xm, xss, ⟨xA, xa, xk⟩, xes, ⟨xB, xb, xl⟩, xq, xas, ⟨xC, xc, xo⟩, xgs, ⟨xD, xd, xp⟩⟩ := s1
  have HT1 : Hid (t1.val = .agg #[.int .i64 xm, .slice xA xa xk, .slice xB xb xl, .int .i64 xq, .slice xC xc xo, .slice xD xd xp]) := Lib.hid (by rw [HE1.out]; rfl)
  simp only [StL.val, Sl.val]
  obtain ⟨W4, hW4⟩ : ∃ W, W = w3.alloc (.cells #[.int .i64 xm, .slice xA xa xk, .slice xB xb xl, .int .i64 xq, .slice xC xc xo, .slice xD xd xp] 30) := ⟨_, rfl⟩
  obtain ⟨b1, hb1⟩ : ∃ b, b = w3.heap.size := ⟨_, rfl⟩
  have hbx : Below w3.heap.size w3 W4 := hW4 ▸ (Below.refl _ _).alloc (Nat.le_refl _) _
  have HX1 : Hid (Below w3.heap.size w3 W4) := Lib.hid hbx
  have HZ1 : Hid (W4.heap.size = b1 + 1 ∧ b1 = w3.heap.size) := Lib.hid ⟨by rw [hW4, World.size_alloc, hb1], hb1⟩
  have HV1 := Lib.hid hv1
  have HO1 : Hid (OwnS w3 _ t1) := Lib.hid ho1
  have HQ1 : Hid (Blk W4 b1 30 #[.int .i64 xm, .slice xA xa xk, .slice xB xb xl, .int .i64 xq, .slice xC xc xo, .slice xD xd xp]) := Lib.hid (by rw [hW4, hb1]; exact Blk.new w3 _ _)
  clear hv1 ho1 hbx
  have HB3 := Lib.hid hb3
  clear hb3
  have HBw4 : Hid (Below w.heap.size w W4) := Lib.hid ((HB2.out.trans (HB3.out.mono HB2.out.size)).trans (HX1.out.mono (HB2.out.trans (HB3.out.mono HB2.out.size)).size))
  have HK4 : Hid (Blk W4 p 30 #[.int .i64 me, .slice D1 d1 k1, .slice D2 d2 k2, .int .i64 q, .slice D3 d3 k3, .slice D4 d4 k4]) := Lib.hid ((HK2.out.below HB3.out HK2.out.lt).below HX1.out (HK2.out.below HB3.out HK2.out.lt).lt)
  have HO14 := Lib.hid (HO1.out.below HX1.out)
  have HI14 : Hid (InS W4 t1) := Lib.hid (HO14.out.inS HV1.out HI0.out)
  have HC2 := Lib.hid (HCo.out t1 W4 HI14.out)
  rw [HT1.out] at HC2
  go_wp2_with fail
  rw [← hW4, ← hb1]
  clear hW4 hb1
  refine HC2.out.mono ?_
  rintro e w5 ⟨s2, rfl, hv2, ho2, hb5⟩
  clear HC2
  obtain ⟨t2, ht2⟩ : ∃ t, t = s2 := ⟨_, rfl⟩
  have HE2 := Lib.hid ht2
  rw [← ht2] at hv2 ho2
  clear ht2
  obtain ⟨um, uss, ⟨uA, ua, uk⟩, ues, ⟨uB, ub, ul⟩, uq, uas, ⟨uC, uc, uo⟩, ugs, ⟨uD, ud, up⟩⟩ := s2
  have HT2 : Hid (t2.val = .agg #[.int .i64 um, .slice uA ua uk, .slice uB ub ul, .int .i64 uq, .slice uC uc uo, .slice uD ud up]) := Lib.hid (by rw [HE2.out]; rfl)
  simp only [StL.val, Sl.val]
  obtain ⟨W6, hW6⟩ : ∃ W, W = w5.alloc (.cells #[.int .i64 um, .slice uA ua uk, .slice uB ub ul, .int .i64 uq, .slice uC uc uo, .slice uD ud up] 30) := ⟨_, rfl⟩
  obtain ⟨b2, hb2⟩ : ∃ b, b = w5.heap.size := ⟨_, rfl⟩
  have hbx : Below w5.heap.size w5 W6 := hW6 ▸ (Below.refl _ _).alloc (Nat.le_refl _) _
  have HX2 : Hid (Below w5.heap.size w5 W6) := Lib.hid hbx
  have HZ2 : Hid (W6.heap.size = b2 + 1 ∧ b2 = w5.heap.size) := Lib.hid ⟨by rw [hW6, World.size_alloc, hb2], hb2⟩
  have HV2 := Lib.hid hv2
  have HO2 : Hid (OwnS w5 _ t2) := Lib.hid ho2
  have HQ2 : Hid (Blk W6 b2 30 #[.int .i64 um, .slice uA ua uk, .slice uB ub ul, .int .i64 uq, .slice uC uc uo, .slice uD ud up]) := Lib.hid (by rw [hW6, hb2]; exact Blk.new w5 _ _)
  clear hv2 ho2 hbx
  have HB5 := Lib.hid hb5
  clear hb5
  have HB46 : Hid (Below W4.heap.size W4 W6) := Lib.hid (HB5.out.trans (HX2.out.mono HB5.out.size))
  have HQ16 := Lib.hid (HQ1.out.below HB46.out HQ1.out.lt)
  have HI16 := Lib.hid (HI14.out.next HB46.out)
  have HC3 := Lib.hid (HCo.out t1 W6 HI16.out)
  rw [HT1.out] at HC3
  obtain ⟨y0, y1, y2, y3, y4, y5⟩ : W6.cell? ⟨b1, 0, none⟩ = some (.int .i64 xm) ∧ W6.cell? ⟨b1, 1, none⟩ = some (.slice xA xa xk) ∧ W6.cell? ⟨b1, 2, none⟩ = some (.slice xB xb xl) ∧ W6.cell? ⟨b1, 3, none⟩ = some (.int .i64 xq) ∧ W6.cell? ⟨b1, 4, none⟩ = some (.slice xC xc xo) ∧ W6.cell? ⟨b1, 5, none⟩ = some (.slice xD xd xp) := ⟨HQ16.out.cell 0, HQ16.out.cell 1, HQ16.out.cell 2, HQ16.out.cell 3, HQ16.out.cell 4, HQ16.out.cell 5⟩
  rw [hW6] at y0 y1 y2 y3 y4 y5
  go_wp2_with fail
  rw [← hW6, ← hb2]
  clear hW6 hb2 y0 y1 y2 y3 y4 y5
  refine HC3.out.mono ?_
  rintro e w7 ⟨s3, rfl, hv3, ho3, hb7⟩
  clear HC3
  obtain ⟨t3, ht3⟩ : ∃ t, t = s3 := ⟨_, rfl⟩
  have HE3 := Lib.hid ht3
  rw [← ht3] at hv3 ho3
  clear ht3
  obtain ⟨vm, vss, ⟨vA, va, vk⟩, ves, ⟨vB, vb, vl⟩, vq, vas, ⟨vC, vc, vo⟩, vgs, ⟨vD, vd, vp⟩⟩ := s3
  have HT3 : Hid (t3.val = .agg #[.int .i64 vm, .slice vA va vk, .slice vB vb vl, .int .i64 vq, .slice vC vc vo, .slice vD vd vp]) := Lib.hid (by rw [HE3.out]; rfl)
  simp only [StL.val, Sl.val]
  obtain ⟨W8, hW8⟩ : ∃ W, W = w7.alloc (.cells #[.int .i64 vm, .slice vA va vk, .slice vB vb vl, .int .i64 vq, .slice vC vc vo, .slice vD vd vp] 30) := ⟨_, rfl⟩
  obtain ⟨b3, hb3⟩ : ∃ b, b = w7.heap.size := ⟨_, rfl⟩
  have hbx : Below w7.heap.size w7 W8 := hW8 ▸ (Below.refl _ _).alloc (Nat.le_refl _) _
  have HX3 : Hid (Below w7.heap.size w7 W8) := Lib.hid hbx
  have HZ3 : Hid (W8.heap.size = b3 + 1 ∧ b3 = w7.heap.size) := Lib.hid ⟨by rw [hW8, World.size_alloc, hb3], hb3⟩
  have HV3 := Lib.hid hv3
  have HO3 : Hid (OwnS w7 _ t3) := Lib.hid ho3
  have HQ3 : Hid (Blk W8 b3 30 #[.int .i64 vm, .slice vA va vk, .slice vB vb vl, .int .i64 vq, .slice vC vc vo, .slice vD vd vp]) := Lib.hid (by rw [hW8, hb3]; exact Blk.new w7 _ _)
  clear hv3 ho3 hbx
  have HB7 := Lib.hid hb7
  clear hb7
  have HB68 : Hid (Below W6.heap.size W6 W8) := Lib.hid (HB7.out.trans (HX3.out.mono HB7.out.size))
  have HB48 : Hid (Below W4.heap.size W4 W8) := Lib.hid (HB46.out.trans (HB68.out.mono HB46.out.size))
  have HQ18 := Lib.hid (HQ1.out.below HB48.out HQ1.out.lt)
  have HQ28 := Lib.hid (HQ2.out.below HB68.out HQ2.out.lt)
  have HK8 := Lib.hid (HK4.out.below HB48.out HK4.out.lt)
  have HBw8 : Hid (Below w.heap.size w W8) := Lib.hid (HBw4.out.trans (HB48.out.mono HBw4.out.size))
  have HO28 : Hid (OwnS W8 W4.heap.size t2) := Lib.hid ((HO2.out.below HX2.out).below HB68.out)
  have HO38 : Hid (OwnS W8 W6.heap.size t3) := Lib.hid (HO3.out.below HX3.out)
  have HI18 := Lib.hid (HI14.out.next HB48.out)
  have HI28 : Hid (InS W8 t2) := Lib.hid (HO28.out.inS HV2.out HI14.out)
  have HI38 : Hid (InS W8 t3) := Lib.hid (HO38.out.inS HV3.out HI14.out)
  have HVa : Hid (t2.v = s0.v) := Lib.hid (HV2.out.trans HV1.out)
  have HVb : Hid (t3.v = s0.v) := Lib.hid (HV3.out.trans HV1.out)
  have HS1 := Lib.hid (refsames_any t1 s0 W8 HI18.out (HI0.out.next HBw8.out))
  rw [HT1.out, HSv.out, decide_eq_true HV1.out] at HS1
  obtain ⟨y0, y1, y2, y3, y4, y5⟩ : W8.cell? ⟨b1, 0, none⟩ = some (.int .i64 xm) ∧ W8.cell? ⟨b1, 1, none⟩ = some (.slice xA xa xk) ∧ W8.cell? ⟨b1, 2, none⟩ = some (.slice xB xb xl) ∧ W8.cell? ⟨b1, 3, none⟩ = some (.int .i64 xq) ∧ W8.cell? ⟨b1, 4, none⟩ = some (.slice xC xc xo) ∧ W8.cell? ⟨b1, 5, none⟩ = some (.slice xD xd xp) := ⟨HQ18.out.cell 0, HQ18.out.cell 1, HQ18.out.cell 2, HQ18.out.cell 3, HQ18.out.cell 4, HQ18.out.cell 5⟩
  obtain ⟨x0, x1, x2, x3, x4, x5⟩ : W8.cell? ⟨p, 0, none⟩ = some (.int .i64 me) ∧ W8.cell? ⟨p, 1, none⟩ = some (.slice D1 d1 k1) ∧ W8.cell? ⟨p, 2, none⟩ = some (.slice D2 d2 k2) ∧ W8.cell? ⟨p, 3, none⟩ = some (.int .i64 q) ∧ W8.cell? ⟨p, 4, none⟩ = some (.slice D3 d3 k3) ∧ W8.cell? ⟨p, 5, none⟩ = some (.slice D4 d4 k4) := ⟨HK8.out.cell 0, HK8.out.cell 1, HK8.out.cell 2, HK8.out.cell 3, HK8.out.cell 4, HK8.out.cell 5⟩
  rw [hW8] at y0 y1 y2 y3 y4 y5 x0 x1 x2 x3 x4 x5
  go_wp2_with fail
  rw [← hW8, ← hb3]
  clear hW8 hb3 y0 y1 y2 y3 y4 y5 x0 x1 x2 x3 x4 x5
  refine HS1.out.mono ?_
  rintro e w9 ⟨rfl, hb9⟩
  clear HS1
  have HB9 := Lib.hid hb9
  have HB89 : Hid (Below W8.heap.size W8 w9) := Lib.hid hb9
  clear hb9
  have HBw9 : Hid (Below w.heap.size w w9) := Lib.hid (HBw8.out.trans (HB89.out.mono HBw8.out.size))
  have HS2 := Lib.hid (refsames_any t2 s0 w9 (HI28.out.next HB89.out) (HI0.out.next HBw9.out))
  rw [HT2.out, HSv.out, decide_eq_true HVa.out] at HS2
  obtain ⟨y0, y1, y2, y3, y4, y5⟩ : w9.cell? ⟨b2, 0, none⟩ = some (.int .i64 um) ∧ w9.cell? ⟨b2, 1, none⟩ = some (.slice uA ua uk) ∧ w9.cell? ⟨b2, 2, none⟩ = some (.slice uB ub ul) ∧ w9.cell? ⟨b2, 3, none⟩ = some (.int .i64 uq) ∧ w9.cell? ⟨b2, 4, none⟩ = some (.slice uC uc uo) ∧ w9.cell? ⟨b2, 5, none⟩ = some (.slice uD ud up) := ⟨(HQ28.out.below HB89.out HQ28.out.lt).cell 0, (HQ28.out.below HB89.out HQ28.out.lt).cell 1, (HQ28.out.below HB89.out HQ28.out.lt).cell 2, (HQ28.out.below HB89.out HQ28.out.lt).cell 3, (HQ28.out.below HB89.out HQ28.out.lt).cell 4, (HQ28.out.below HB89.out HQ28.out.lt).cell 5⟩
  obtain ⟨x0, x1, x2, x3, x4, x5⟩ : w9.cell? ⟨p, 0, none⟩ = some (.int .i64 me) ∧ w9.cell? ⟨p, 1, none⟩ = some (.slice D1 d1 k1) ∧ w9.cell? ⟨p, 2, none⟩ = some (.slice D2 d2 k2) ∧ w9.cell? ⟨p, 3, none⟩ = some (.int .i64 q) ∧ w9.cell? ⟨p, 4, none⟩ = some (.slice D3 d3 k3) ∧ w9.cell? ⟨p, 5, none⟩ = some (.slice D4 d4 k4) := ⟨(HK8.out.below HB89.out HK8.out.lt).cell 0, (HK8.out.below HB89.out HK8.out.lt).cell 1, (HK8.out.below HB89.out HK8.out.lt).cell 2, (HK8.out.below HB89.out HK8.out.lt).cell 3, (HK8.out.below HB89.out HK8.out.lt).cell 4, (HK8.out.below HB89.out HK8.out.lt).cell 5⟩
  go_wp2_with fail
  clear y0 y1 y2 y3 y4 y5 x0 x1 x2 x3 x4 x5
  refine HS2.out.mono ?_
  rintro e w10 ⟨rfl, hb10⟩
  clear HS2
  have HB810 : Hid (Below W8.heap.size W8 w10) := Lib.hid (HB89.out.trans (hb10.mono HB89.out.size))
  clear hb10
  have HSp := Lib.hid (spoilt_any t2 w10 W4.heap.size (HO28.out.below HB810.out) (HI28.out.next HB810.out) (HB48.out.trans (HB810.out.mono HB48.out.size)).size)
  rw [HT2.out] at HSp
  obtain ⟨y0, y1, y2, y3, y4, y5⟩ : w10.cell? ⟨b2, 0, none⟩ = some (.int .i64 um) ∧ w10.cell? ⟨b2, 1, none⟩ = some (.slice uA ua uk) ∧ w10.cell? ⟨b2, 2, none⟩ = some (.slice uB ub ul) ∧ w10.cell? ⟨b2, 3, none⟩ = some (.int .i64 uq) ∧ w10.cell? ⟨b2, 4, none⟩ = some (.slice uC uc uo) ∧ w10.cell? ⟨b2, 5, none⟩ = some (.slice uD ud up) := ⟨(HQ28.out.below HB810.out HQ28.out.lt).cell 0, (HQ28.out.below HB810.out HQ28.out.lt).cell 1, (HQ28.out.below HB810.out HQ28.out.lt).cell 2, (HQ28.out.below HB810.out HQ28.out.lt).cell 3, (HQ28.out.below HB810.out HQ28.out.lt).cell 4, (HQ28.out.below HB810.out HQ28.out.lt).cell 5⟩
  go_wp2_with fail
  clear y0 y1 y2 y3 y4 y5
  refine HSp.out.mono ?_
  rintro e w11 ⟨rfl, hb11⟩
  clear HSp
  have HB411 : Hid (Below W4.heap.size W4 w11) := Lib.hid (OnlyS.bel (HB48.out.trans (HB810.out.mono HB48.out.size)) hb11 (fun b hb => (stB_in HO28.out hb).1) (HB48.out.trans (HB810.out.mono HB48.out.size)).size)
  have HO311 : Hid (OwnS w11 W6.heap.size t3) := Lib.hid ((HO38.out.below HB810.out).stay fun g hg hl => hb11.block g hl (fun h => by
    have h1 := (stB_in HO2.out h).2
    have h2 := HX2.out.size
    have h3 := HZ2.out
    omega))
  have HQ311 : Hid (Blk w11 b3 30 #[.int .i64 vm, .slice vA va vk, .slice vB vb vl, .int .i64 vq, .slice vC vc vo, .slice vD vd vp]) := Lib.hid (by
    refine hb11.blk (HQ3.out.below HB810.out HQ3.out.lt) (fun h => ?_)
    have h1 := (stB_in HO2.out h).2
    have h2 := HX2.out.size
    have h3 := HZ2.out
    have h4 := HZ3.out
    have h5 := HB7.out.size
    omega)
  clear hb11
  have HBw11 : Hid (Below w.heap.size w w11) := Lib.hid (HBw4.out.trans (HB411.out.mono HBw4.out.size))
  have HS4 := Lib.hid (refsames_any t1 s0 w11 (HI14.out.next HB411.out) (HI0.out.next HBw11.out))
  rw [HT1.out, HSv.out, decide_eq_true HV1.out] at HS4
  obtain ⟨y0, y1, y2, y3, y4, y5⟩ : w11.cell? ⟨b1, 0, none⟩ = some (.int .i64 xm) ∧ w11.cell? ⟨b1, 1, none⟩ = some (.slice xA xa xk) ∧ w11.cell? ⟨b1, 2, none⟩ = some (.slice xB xb xl) ∧ w11.cell? ⟨b1, 3, none⟩ = some (.int .i64 xq) ∧ w11.cell? ⟨b1, 4, none⟩ = some (.slice xC xc xo) ∧ w11.cell? ⟨b1, 5, none⟩ = some (.slice xD xd xp) := ⟨(HQ1.out.below HB411.out HQ1.out.lt).cell 0, (HQ1.out.below HB411.out HQ1.out.lt).cell 1, (HQ1.out.below HB411.out HQ1.out.lt).cell 2, (HQ1.out.below HB411.out HQ1.out.lt).cell 3, (HQ1.out.below HB411.out HQ1.out.lt).cell 4, (HQ1.out.below HB411.out HQ1.out.lt).cell 5⟩
  obtain ⟨x0, x1, x2, x3, x4, x5⟩ : w11.cell? ⟨p, 0, none⟩ = some (.int .i64 me) ∧ w11.cell? ⟨p, 1, none⟩ = some (.slice D1 d1 k1) ∧ w11.cell? ⟨p, 2, none⟩ = some (.slice D2 d2 k2) ∧ w11.cell? ⟨p, 3, none⟩ = some (.int .i64 q) ∧ w11.cell? ⟨p, 4, none⟩ = some (.slice D3 d3 k3) ∧ w11.cell? ⟨p, 5, none⟩ = some (.slice D4 d4 k4) := ⟨(HK4.out.below HB411.out HK4.out.lt).cell 0, (HK4.out.below HB411.out HK4.out.lt).cell 1, (HK4.out.below HB411.out HK4.out.lt).cell 2, (HK4.out.below HB411.out HK4.out.lt).cell 3, (HK4.out.below HB411.out HK4.out.lt).cell 4, (HK4.out.below HB411.out HK4.out.lt).cell 5⟩
  go_wp2_with fail
  clear y0 y1 y2 y3 y4 y5 x0 x1 x2 x3 x4 x5
  refine HS4.out.mono ?_
  rintro e w12 ⟨rfl, hb12⟩
  clear HS4
  have HB1112 := Lib.hid hb12
  clear hb12
  have HBw12 : Hid (Below w.heap.size w w12) := Lib.hid (HBw11.out.trans (HB1112.out.mono HBw11.out.size))
  have HS5 := Lib.hid (refsames_any t3 s0 w12 ((HO311.out.inS HV3.out HI14.out).next HB1112.out) (HI0.out.next HBw12.out))
  rw [HT3.out, HSv.out, decide_eq_true HVb.out] at HS5
  obtain ⟨y0, y1, y2, y3, y4, y5⟩ : w12.cell? ⟨b3, 0, none⟩ = some (.int .i64 vm) ∧ w12.cell? ⟨b3, 1, none⟩ = some (.slice vA va vk) ∧ w12.cell? ⟨b3, 2, none⟩ = some (.slice vB vb vl) ∧ w12.cell? ⟨b3, 3, none⟩ = some (.int .i64 vq) ∧ w12.cell? ⟨b3, 4, none⟩ = some (.slice vC vc vo) ∧ w12.cell? ⟨b3, 5, none⟩ = some (.slice vD vd vp) := ⟨(HQ311.out.below HB1112.out HQ311.out.lt).cell 0, (HQ311.out.below HB1112.out HQ311.out.lt).cell 1, (HQ311.out.below HB1112.out HQ311.out.lt).cell 2, (HQ311.out.below HB1112.out HQ311.out.lt).cell 3, (HQ311.out.below HB1112.out HQ311.out.lt).cell 4, (HQ311.out.below HB1112.out HQ311.out.lt).cell 5⟩
  obtain ⟨x0, x1, x2, x3, x4, x5⟩ : w12.cell? ⟨p, 0, none⟩ = some (.int .i64 me) ∧ w12.cell? ⟨p, 1, none⟩ = some (.slice D1 d1 k1) ∧ w12.cell? ⟨p, 2, none⟩ = some (.slice D2 d2 k2) ∧ w12.cell? ⟨p, 3, none⟩ = some (.int .i64 q) ∧ w12.cell? ⟨p, 4, none⟩ = some (.slice D3 d3 k3) ∧ w12.cell? ⟨p, 5, none⟩ = some (.slice D4 d4 k4) := ⟨((HK4.out.below HB411.out HK4.out.lt).below HB1112.out (HK4.out.below HB411.out HK4.out.lt).lt).cell 0, ((HK4.out.below HB411.out HK4.out.lt).below HB1112.out (HK4.out.below HB411.out HK4.out.lt).lt).cell 1, ((HK4.out.below HB411.out HK4.out.lt).below HB1112.out (HK4.out.below HB411.out HK4.out.lt).lt).cell 2, ((HK4.out.below HB411.out HK4.out.lt).below HB1112.out (HK4.out.below HB411.out HK4.out.lt).lt).cell 3, ((HK4.out.below HB411.out HK4.out.lt).below HB1112.out (HK4.out.below HB411.out HK4.out.lt).lt).cell 4, ((HK4.out.below HB411.out HK4.out.lt).below HB1112.out (HK4.out.below HB411.out HK4.out.lt).lt).cell 5⟩
  go_wp2_with fail
  clear y0 y1 y2 y3 y4 y5 x0 x1 x2 x3 x4 x5
  refine HS5.out.mono ?_
  rintro e w13 ⟨rfl, hb13⟩
  clear HS5
  have HB13 : Hid (Below w.heap.size w w13) := Lib.hid (HBw12.out.trans (hb13.mono HBw12.out.size))
  clear hb13
  clear HB1112 HBw12 HBw11 HB411 HO311 HQ311 HB810 HB89 HB9 HBw9 HVa HVb HI38 HI28 HI18 HO38 HO28 HBw8 HK8 HQ28 HQ18 HB48 HB68 HB7 HX3 HZ3 HV3 HO3 HQ3 HT3 HE3 HI16 HQ16 HB46 HB5 HX2 HZ2 HV2 HO2 HQ2 HT2 HE2 HI14 HO14 HK4 HBw4 HB3 HX1 HZ1 HV1 HO1 HQ1 HT1 HE1 HK2 HB2 HB1 HKp HF0 HI0 HS0 HSv HW
  go_wp2_with fail
  refine (new_any A n c ps w13 w.heap.size (HRd.out.below HB13.out) HB13.out.size hn).mono ?_
  rintro e w14 ⟨hb14, ⟨T, g, rfl, hch, ht, hT, hg, hTg⟩ | ⟨u, er, rfl, hch, her⟩⟩
  case inr =>
    have t1 : (er == 0) = false := by simpa using her
    have t2 : (er != 0) = true := by simpa using her
    have HB7 := Lib.hid (HB13.out.trans (hb14.mono HB13.out.size))
    have her9 := hch.code
    clear hb14 hch her
    go_wp2_with fail
    go_ret
    exact ⟨rfl, HB7.out⟩
  have HG := Lib.hid hch.good.1
  have HT := Lib.hid ht
  have HB14 : Hid (Below w.heap.size w w14) := Lib.hid (HB13.out.trans (hb14.mono HB13.out.size))
  have HRh14 := Lib.hid (HRh.out.below HB14.out)
  have hs14 : w.heap.size ≤ w14.heap.size := HB14.out.size
  clear hb14 hch ht hT hg hTg
  go_wp2_with (first
    | (at_builtin; refine appNE w14 rfl (.tmp 62) (.tmp 63) rfl rfl w.heap.size A' c' hs n' rfl HRh14.out hs14 (by omega) ?_; intro v2 w15 hown2 hb2; have HO2 := Lib.hid hown2; have HB15 := Lib.hid hb2; clear hown2 hb2)
    | (at_builtin; refine appN w15 71 _ rfl (.tmp 64) (.tmp 65) rfl w14.heap.size _ hs rfl HO2.out w15.heap.size rfl rfl (by rw [HLh.out]; omega) HB15.out.size ?_; intro v3 w16 hown3 hb3 _; obtain ⟨go, co, rfl, hc3⟩ := own_someN hown3 (by simp); have e1 : (hs ++ [71]).length = n' + 1 := by { simp [HLh.out] }; rw [e1] at hc3 hown3 ⊢; clear e1; have HO3 := Lib.hid hown3; have HB16 := Lib.hid (HB15.out.trans hb3); have hci : (n' : Int) ≤ (co : Int) := by { omega }; have hc0 : ¬ co = 0 := by { omega }; have hcn : n' ≤ co := by { omega }; clear hown3 hb3))
  have HIn : Hid (InN w16 hs (some ⟨go, 0, none⟩) n' co) := Lib.hid (by
    obtain ⟨A9, c9, e, _, hr3⟩ := HO3.out.reads
    simp only [Value.slice.injEq] at e
    obtain ⟨e1, e2, e3⟩ := e
    rw [← e1, ← e2] at hr3
    exact ⟨reads_takeN hr3 HLh.out, hcn, by omega, HIh.out⟩)
  have HGo : Hid (w14.heap.size ≤ go ∧ go < w16.heap.size) := Lib.hid ⟨HO3.out.at_.2.1, HO3.out.at_.2.2.1⟩
  have HTd : Hid (∀ {W : World}, Below w16.heap.size w16 W → IsTr W T g ps) := Lib.hid (fun h => HT.out.below_ (HB16.out.trans (h.mono HB16.out.size)))
  have hpn : 0 < ps.length := HG.out.pos
  obtain ⟨fs, er, hfe⟩ : ∃ fs er, firstE ps hs 0 = (fs, er) := ⟨_, _, rfl⟩
  have HER : Hid ((er = 0 ∧ HomesS ps.length hs) ∨ (er = 1 ∧ ¬ HomesS ps.length hs)) := Lib.hid (by
    unfold firstE at hfe
    by_cases h : HomesS ps.length hs
    · rw [if_pos ⟨h, by omega, by omega⟩] at hfe
      injection hfe with h1 h2
      exact .inl ⟨h2.symm, h⟩
    · rw [if_neg (fun k => h k.1)] at hfe
      injection hfe with h1 h2
      exact .inr ⟨h2.symm, h⟩)
  have HFs : Hid (FewS fs) := Lib.hid (by have h := few_firstE (ps := ps) (hs := hs) HG.out; rw [hfe] at h; exact h)
  have HFc : Hid (∀ W, Below w16.heap.size w16 W → Calls Try.prog 10 #[.pointer (some ⟨T, 0, none⟩), .slice (some ⟨go, 0, none⟩) n' co, .int .i64 0] W fun e w' => ∃ s2 : StL, e = .returned (.tuple #[s2.val, .int .i64 er]) ∧ s2.v = fs ∧ OwnS w' W.heap.size s2 ∧ Below W.heap.size W w') := Lib.hid (fun W hW => (HFi.out T g ps (some ⟨go, 0, none⟩) n' co hs 0 W (HTd.out hW) HG.out (HIn.out.next hW) ⟨by omega, by omega⟩).mono fun e w' ⟨s2, h1, h2, h3, h4⟩ => ⟨s2, by rw [h1, hfe], by rw [h2, hfe], h3, h4⟩)
  have HHc : Hid (∀ W, Below w16.heap.size w16 W → Calls Try.prog 11 #[.pointer (some ⟨T, 0, none⟩), .slice (some ⟨go, 0, none⟩) n' co] W fun e w' => e = .returned (.int .i64 (homesE ps.length hs)) ∧ Below W.heap.size W w') := Lib.hid (fun W hW => HHo.out T g ps _ n' co hs W (HTd.out hW) HG.out (HIn.out.next hW))
  clear hfe hpn HIn hc3
  obtain ⟨hm9, hhm9⟩ : ∃ x, x = homesE ps.length hs := ⟨_, rfl⟩
  rw [← hhm9] at HHc
  clear hhm9
  refine (HFc.out w16 (Below.refl _ _)).mono ?_
  rintro e w17 ⟨s4, rfl, hv4, ho4, hb17⟩
  obtain ⟨t4, ht4⟩ : ∃ t, t = s4 := ⟨_, rfl⟩
  have HE4 := Lib.hid ht4
  rw [← ht4] at hv4 ho4
  clear ht4
  obtain ⟨lm, lss, ⟨lA, la, lk⟩, les, ⟨lB, lb, ll⟩, lq, las, ⟨lC, lc, lo⟩, lgs, ⟨lD, ld, lp⟩⟩ := s4
  have HT4 : Hid (t4.val = .agg #[.int .i64 lm, .slice lA la lk, .slice lB lb ll, .int .i64 lq, .slice lC lc lo, .slice lD ld lp]) := Lib.hid (by rw [HE4.out]; rfl)
  simp only [StL.val, Sl.val]
  obtain ⟨W18, hW18⟩ : ∃ W, W = w17.alloc (.cells #[.int .i64 lm, .slice lA la lk, .slice lB lb ll, .int .i64 lq, .slice lC lc lo, .slice lD ld lp] 30) := ⟨_, rfl⟩
  obtain ⟨b4, hb4⟩ : ∃ b, b = w17.heap.size := ⟨_, rfl⟩
  have hbx : Below w17.heap.size w17 W18 := hW18 ▸ (Below.refl _ _).alloc (Nat.le_refl _) _
  have HX4 : Hid (Below w17.heap.size w17 W18) := Lib.hid hbx
  have HZ4 : Hid (W18.heap.size = b4 + 1 ∧ b4 = w17.heap.size) := Lib.hid ⟨by rw [hW18, World.size_alloc, hb4], hb4⟩
  have HV4 := Lib.hid hv4
  have HO4 : Hid (OwnS w17 _ t4) := Lib.hid ho4
  have HQ4 : Hid (Blk W18 b4 30 #[.int .i64 lm, .slice lA la lk, .slice lB lb ll, .int .i64 lq, .slice lC lc lo, .slice lD ld lp]) := Lib.hid (by rw [hW18, hb4]; exact Blk.new w17 _ _)
  clear hv4 ho4 hbx
  have HB17 := Lib.hid hb17
  clear hb17
  have HB18 : Hid (Below w16.heap.size w16 W18) := Lib.hid (HB17.out.trans (HX4.out.mono HB17.out.size))
  go_wp2_with fail
  rw [← hW18, ← hb4]
  clear hW18 hb4
  refine (HFc.out W18 HB18.out).mono ?_
  rintro e w19 ⟨s5, rfl, hv5, ho5, hb19⟩
  obtain ⟨t5, ht5⟩ : ∃ t, t = s5 := ⟨_, rfl⟩
  have HE5 := Lib.hid ht5
  rw [← ht5] at hv5 ho5
  clear ht5
  obtain ⟨jm, jss, ⟨jA, ja, jk⟩, jes, ⟨jB, jb, jl⟩, jq, jas, ⟨jC, jc, jo⟩, jgs, ⟨jD, jd, jp⟩⟩ := s5
  have HT5 : Hid (t5.val = .agg #[.int .i64 jm, .slice jA ja jk, .slice jB jb jl, .int .i64 jq, .slice jC jc jo, .slice jD jd jp]) := Lib.hid (by rw [HE5.out]; rfl)
  simp only [StL.val, Sl.val]
  obtain ⟨W20, hW20⟩ : ∃ W, W = w19.alloc (.cells #[.int .i64 jm, .slice jA ja jk, .slice jB jb jl, .int .i64 jq, .slice jC jc jo, .slice jD jd jp] 30) := ⟨_, rfl⟩
  obtain ⟨b5, hb5⟩ : ∃ b, b = w19.heap.size := ⟨_, rfl⟩
  have hbx : Below w19.heap.size w19 W20 := hW20 ▸ (Below.refl _ _).alloc (Nat.le_refl _) _
  have HX5 : Hid (Below w19.heap.size w19 W20) := Lib.hid hbx
  have HZ5 : Hid (W20.heap.size = b5 + 1 ∧ b5 = w19.heap.size) := Lib.hid ⟨by rw [hW20, World.size_alloc, hb5], hb5⟩
  have HV5 := Lib.hid hv5
  have HO5 : Hid (OwnS w19 _ t5) := Lib.hid ho5
  have HQ5 : Hid (Blk W20 b5 30 #[.int .i64 jm, .slice jA ja jk, .slice jB jb jl, .int .i64 jq, .slice jC jc jo, .slice jD jd jp]) := Lib.hid (by rw [hW20, hb5]; exact Blk.new w19 _ _)
  clear hv5 ho5 hbx
  have HB19 := Lib.hid hb19
  clear hb19
  have HB1820 : Hid (Below W18.heap.size W18 W20) := Lib.hid (HB19.out.trans (HX5.out.mono HB19.out.size))
  have HB20 : Hid (Below w16.heap.size w16 W20) := Lib.hid (HB18.out.trans (HB1820.out.mono HB18.out.size))
  go_wp2_with fail
  rw [← hW20, ← hb5]
  clear hW20 hb5
  refine (HHc.out W20 HB20.out).mono ?_
  rintro e w21 ⟨rfl, hb21⟩
  have HB21 := Lib.hid hb21
  clear hb21
  have HB1621 : Hid (Below w16.heap.size w16 w21) := Lib.hid (HB20.out.trans (HB21.out.mono HB20.out.size))
  have HBw21 : Hid (Below w.heap.size w w21) := Lib.hid (HB14.out.trans ((HB16.out.trans (HB1621.out.mono HB16.out.size)).mono HB14.out.size))
  have HO421 : Hid (OwnS w21 w16.heap.size t4) := Lib.hid (((HO4.out.below HX4.out).below HB1820.out).below HB21.out)
  have HO521 : Hid (OwnS w21 W18.heap.size t5) := Lib.hid ((HO5.out.below HX5.out).below HB21.out)
  have HQ421 := Lib.hid ((HQ4.out.below HB1820.out HQ4.out.lt).below HB21.out (HQ4.out.below HB1820.out HQ4.out.lt).lt)
  have HQ521 := Lib.hid (HQ5.out.below HB21.out HQ5.out.lt)
  have HON := Lib.hid (HO3.out.below HB1621.out)
  have hn64 : n' ≤ 17592186044416 := by omega
  go_wp2_with fail
  go_loopw [93] (fun j wr => ∃ (i : Nat) (L : List Int), j = .int .i64 i ∧ i ≤ n' ∧ OwnN wr w14.heap.size (.slice (some ⟨go, 0, none⟩) (n' + 1) co) L ∧ (∀ t, i ≤ t → t ≤ n' → L.getD t 0 = (hs ++ [71]).getD t 0) ∧ Only w21 wr go) (fun j _ => n' - (intOf j).toNat)
  case atStart => exact ⟨0, hs ++ [71], rfl, by omega, HON.out, fun _ _ _ => rfl, Only.refl _ _⟩
  case round =>
    obtain ⟨i, L, rfl, hi, hown, hsm, hO⟩ := hrel
    obtain ⟨V0, rfl⟩ : ∃ V : World, V = wr := ⟨_, rfl⟩
    have HOw := Lib.hid hown
    have HSm := Lib.hid hsm
    have HOn := Lib.hid hO
    have HBV : Hid (Below w.heap.size w V0) := Lib.hid (Only.below HBw21.out hO (by have h1 := HGo.out; omega) HBw21.out.size)
    clear hown hsm hO
    by_cases hlt : i < n'
    case pos =>
      obtain ⟨hx0, hg3, hg3lt, hcell3, hfr3⟩ := HOw.out.at_
      have c1 := hcell3 i (by omega)
      have hz : L.getD i 0 = hs.getD i 0 := by
        rw [HSm.out i (Nat.le_refl _) (by omega)]
        have hil : i < hs.length := by rw [HLh.out]; exact hlt
        rw [List.getD_eq_getElem?_getD, List.getD_eq_getElem?_getD, List.getElem?_append_left hil]
      rw [hz] at c1
      obtain ⟨b, off, rfl, hbw, hc⟩ := (HRh.out.below HBV.out).i64 (by omega)
      have c2 := hc i hlt
      obtain ⟨z, hzz⟩ : ∃ z, z = hs.getD i 0 := ⟨_, rfl⟩
      rw [← hzz] at c1 c2
      have f1 := hfr3 i
      have z1 := fun (k : Nat) => (show (V0.drewN k).cell? ⟨go, i, none⟩ = some (.int .i64 z) from c1)
      have z2 := fun (k : Nat) => (show (V0.drewN k).cell? ⟨b, off + i, none⟩ = some (.int .i64 z) from c2)
      have z3 := fun (k : Nat) => (show (V0.drewN k).frozen? ⟨go, i, none⟩ = false from f1)
      have tz : (z != z) = false := by simp
      have HLL : Hid (L.length = n' + 1) := Lib.hid hx0.symm
      have hid1 : i < n' := hlt
      have hid2 : (i : Int) < (n' : Int) + 1 := by omega
      clear hcell3 hfr3 hz hc hzz hx0 hg3lt hg3 hbw c1 c2 f1
      go_wp2_with fail
      go_quiet (fail)
      go_wp2_with fail
      go_roundw
      case rel =>
        refine ⟨i + 1, L.set i 0, by go_num, by omega, OwnN.set_ (show OwnN (V0.drewN _) _ _ _ from HOw.out) i 0, fun t ht1 ht2 => ?_, (HOn.out.drewN _).set i _⟩
        rw [List.getD_eq_getElem?_getD, List.getElem?_set_ne (by omega), ← List.getD_eq_getElem?_getD]
        exact HSm.out t (by omega) ht2
      case measure => simp [intOf]; omega
    case neg =>
      have hin2 : i = n' := by omega
      have HK : Hid (∀ b, b < w21.heap.size → b ≠ go → V0.heap[b]? = w21.heap[b]?) := Lib.hid (fun b hb hne => HOn.out.block b hb (fun e => hne (by injection e)))
      have hsz : w21.heap.size ≤ V0.heap.size := HOn.out.size
      have HSz := Lib.hid hsz
      have c71 : V0.cell? ⟨go, n', none⟩ = some (.int .i64 71) := by
        rw [HOw.out.at_.2.2.2.1 n' (by omega), HSm.out n' (by omega) (Nat.le_refl _)]
        simp [List.getD, HLh.out]
      have HO4v : Hid (OwnS V0 w16.heap.size t4) := Lib.hid (HO421.out.stay fun b hb hl => HK.out b hl (by have h1 := HGo.out; omega))
      have HO5v : Hid (OwnS V0 W18.heap.size t5) := Lib.hid (HO521.out.stay fun b hb hl => HK.out b hl (by have h1 := HGo.out; have h2 := HB18.out.size; omega))
      have HQ4v : Hid (Blk V0 b4 30 #[.int .i64 lm, .slice lA la lk, .slice lB lb ll, .int .i64 lq, .slice lC lc lo, .slice lD ld lp]) := Lib.hid ((HK.out b4 HQ421.out.lt (by have h1 := HGo.out; have h2 := HZ4.out; have h3 := HB17.out.size; omega)).trans HQ421.out)
      have HQ5v : Hid (Blk V0 b5 30 #[.int .i64 jm, .slice jA ja jk, .slice jB jb jl, .int .i64 jq, .slice jC jc jo, .slice jD jd jp]) := Lib.hid ((HK.out b5 HQ521.out.lt (by have h1 := HGo.out; have h2 := HZ5.out; have h3 := HB19.out.size; have h4 := HB18.out.size; omega)).trans HQ521.out)
      have HI4 : Hid (InS V0 t4) := Lib.hid (HO4v.out.few (by rw [HV4.out]; exact HFs.out))
      have HI5 : Hid (InS V0 t5) := Lib.hid (HO5v.out.few (by rw [HV5.out]; exact HFs.out))
      have HSa := Lib.hid (refsames_any t4 t5 V0 HI4.out HI5.out)
      rw [HT4.out, HT5.out, decide_eq_true (by rw [HV4.out, HV5.out])] at HSa
      have hid2 : (n' : Int) < (n' : Int) + 1 := by omega
      obtain ⟨y0, y1, y2, y3, y4, y5⟩ : V0.cell? ⟨b4, 0, none⟩ = some (.int .i64 lm) ∧ V0.cell? ⟨b4, 1, none⟩ = some (.slice lA la lk) ∧ V0.cell? ⟨b4, 2, none⟩ = some (.slice lB lb ll) ∧ V0.cell? ⟨b4, 3, none⟩ = some (.int .i64 lq) ∧ V0.cell? ⟨b4, 4, none⟩ = some (.slice lC lc lo) ∧ V0.cell? ⟨b4, 5, none⟩ = some (.slice lD ld lp) := ⟨HQ4v.out.cell 0, HQ4v.out.cell 1, HQ4v.out.cell 2, HQ4v.out.cell 3, HQ4v.out.cell 4, HQ4v.out.cell 5⟩
      obtain ⟨x0, x1, x2, x3, x4, x5⟩ : V0.cell? ⟨b5, 0, none⟩ = some (.int .i64 jm) ∧ V0.cell? ⟨b5, 1, none⟩ = some (.slice jA ja jk) ∧ V0.cell? ⟨b5, 2, none⟩ = some (.slice jB jb jl) ∧ V0.cell? ⟨b5, 3, none⟩ = some (.int .i64 jq) ∧ V0.cell? ⟨b5, 4, none⟩ = some (.slice jC jc jo) ∧ V0.cell? ⟨b5, 5, none⟩ = some (.slice jD jd jp) := ⟨HQ5v.out.cell 0, HQ5v.out.cell 1, HQ5v.out.cell 2, HQ5v.out.cell 3, HQ5v.out.cell 4, HQ5v.out.cell 5⟩
      subst hin2
      go_wp2_with fail
      clear y0 y1 y2 y3 y4 y5 x0 x1 x2 x3 x4 x5 c71
      refine HSa.out.mono ?_
      rintro e w22 ⟨rfl, hb22⟩
      have HB22 := Lib.hid hb22
      clear hb22 HSa
      have HC6 := Lib.hid (refcopy_any t5 w22 (HI5.out.next HB22.out))
      rw [HT5.out] at HC6
      obtain ⟨x0, x1, x2, x3, x4, x5⟩ : w22.cell? ⟨b5, 0, none⟩ = some (.int .i64 jm) ∧ w22.cell? ⟨b5, 1, none⟩ = some (.slice jA ja jk) ∧ w22.cell? ⟨b5, 2, none⟩ = some (.slice jB jb jl) ∧ w22.cell? ⟨b5, 3, none⟩ = some (.int .i64 jq) ∧ w22.cell? ⟨b5, 4, none⟩ = some (.slice jC jc jo) ∧ w22.cell? ⟨b5, 5, none⟩ = some (.slice jD jd jp) := ⟨(HQ5v.out.below HB22.out HQ5v.out.lt).cell 0, (HQ5v.out.below HB22.out HQ5v.out.lt).cell 1, (HQ5v.out.below HB22.out HQ5v.out.lt).cell 2, (HQ5v.out.below HB22.out HQ5v.out.lt).cell 3, (HQ5v.out.below HB22.out HQ5v.out.lt).cell 4, (HQ5v.out.below HB22.out HQ5v.out.lt).cell 5⟩
      go_wp2_with fail
      clear x0 x1 x2 x3 x4 x5
      refine HC6.out.mono ?_
      rintro e w23 ⟨s6, rfl, hv6, ho6, hb23⟩
      clear HC6
      obtain ⟨t6, ht6⟩ : ∃ t, t = s6 := ⟨_, rfl⟩
      have HE6 := Lib.hid ht6
      rw [← ht6] at hv6 ho6
      clear ht6
      obtain ⟨zm, zss, ⟨zA, za, zk⟩, zes, ⟨zB, zb, zl⟩, zq, zas, ⟨zC, zc, zo⟩, zgs, ⟨zD, zd, zp⟩⟩ := s6
      have HT6 : Hid (t6.val = .agg #[.int .i64 zm, .slice zA za zk, .slice zB zb zl, .int .i64 zq, .slice zC zc zo, .slice zD zd zp]) := Lib.hid (by rw [HE6.out]; rfl)
      simp only [StL.val, Sl.val]
      obtain ⟨W24, hW24⟩ : ∃ W, W = w23.alloc (.cells #[.int .i64 zm, .slice zA za zk, .slice zB zb zl, .int .i64 zq, .slice zC zc zo, .slice zD zd zp] 30) := ⟨_, rfl⟩
      obtain ⟨b6, hb6⟩ : ∃ b, b = w23.heap.size := ⟨_, rfl⟩
      have hbx : Below w23.heap.size w23 W24 := hW24 ▸ (Below.refl _ _).alloc (Nat.le_refl _) _
      have HX6 : Hid (Below w23.heap.size w23 W24) := Lib.hid hbx
      have HZ6 : Hid (W24.heap.size = b6 + 1 ∧ b6 = w23.heap.size) := Lib.hid ⟨by rw [hW24, World.size_alloc, hb6], hb6⟩
      have HV6 := Lib.hid hv6
      have HO6 : Hid (OwnS w23 _ t6) := Lib.hid ho6
      have HQ6 : Hid (Blk W24 b6 30 #[.int .i64 zm, .slice zA za zk, .slice zB zb zl, .int .i64 zq, .slice zC zc zo, .slice zD zd zp]) := Lib.hid (by rw [hW24, hb6]; exact Blk.new w23 _ _)
      clear hv6 ho6 hbx
      have HB23 := Lib.hid hb23
      clear hb23
      have HB24 : Hid (Below V0.heap.size V0 W24) := Lib.hid ((HB22.out.trans (HB23.out.mono HB22.out.size)).trans (HX6.out.mono (HB22.out.trans (HB23.out.mono HB22.out.size)).size))
      have HB2224 : Hid (Below w22.heap.size w22 W24) := Lib.hid (HB23.out.trans (HX6.out.mono HB23.out.size))
      have HBw24 : Hid (Below w.heap.size w W24) := Lib.hid (HBV.out.trans (HB24.out.mono HBV.out.size))
      have HSp := Lib.hid (spoilt_any t4 W24 w16.heap.size (HO4v.out.below HB24.out) (HI4.out.next HB24.out) (by have h1 := HB24.out.size; have h2 := HSz.out; have h3 := HB1621.out.size; omega))
      rw [HT4.out] at HSp
      obtain ⟨y0, y1, y2, y3, y4, y5⟩ : W24.cell? ⟨b4, 0, none⟩ = some (.int .i64 lm) ∧ W24.cell? ⟨b4, 1, none⟩ = some (.slice lA la lk) ∧ W24.cell? ⟨b4, 2, none⟩ = some (.slice lB lb ll) ∧ W24.cell? ⟨b4, 3, none⟩ = some (.int .i64 lq) ∧ W24.cell? ⟨b4, 4, none⟩ = some (.slice lC lc lo) ∧ W24.cell? ⟨b4, 5, none⟩ = some (.slice lD ld lp) := ⟨(HQ4v.out.below HB24.out HQ4v.out.lt).cell 0, (HQ4v.out.below HB24.out HQ4v.out.lt).cell 1, (HQ4v.out.below HB24.out HQ4v.out.lt).cell 2, (HQ4v.out.below HB24.out HQ4v.out.lt).cell 3, (HQ4v.out.below HB24.out HQ4v.out.lt).cell 4, (HQ4v.out.below HB24.out HQ4v.out.lt).cell 5⟩
      rw [hW24] at y0 y1 y2 y3 y4 y5
      go_wp2_with fail
      rw [← hW24, ← hb6]
      clear hW24 hb6 y0 y1 y2 y3 y4 y5
      refine HSp.out.mono ?_
      rintro e w25 ⟨rfl, hb25⟩
      clear HSp
      have HBw25 : Hid (Below w.heap.size w w25) := Lib.hid (OnlyS.bel HBw24.out hb25 (fun b hb => by
        have h1 := (stB_in HO4v.out hb).1
        have h2 := HGo.out
        have h3 := HB14.out.size
        omega) HBw24.out.size)
      have HFar : Hid (∀ b, W18.heap.size ≤ b → b < W24.heap.size → w25.heap[b]? = W24.heap[b]?) := Lib.hid (fun b h0 h => hb25.block b h (fun hs => by
        have h1 := (stB_in HO4.out hs).2
        have h2 := HX4.out.size
        omega))
      clear hb25
      have HO525 : Hid (OwnS w25 W18.heap.size t5) := Lib.hid ((HO5v.out.below HB24.out).stay fun b h0 h => HFar.out b h0 h)
      have HO625 : Hid (OwnS w25 w22.heap.size t6) := Lib.hid ((HO6.out.below HX6.out).stay fun b h0 h => HFar.out b (by have h1 := HB22.out.size; have h2 := HSz.out; have h3 := HB21.out.size; have h4 := HB1820.out.size; omega) h)
      have hge : W18.heap.size ≤ b5 := by have h1 := HZ5.out; have h2 := HB19.out.size; omega
      have hge6 : W18.heap.size ≤ b6 := by have h1 := HZ6.out; have h2 := HB23.out.size; have h3 := HB22.out.size; have h4 := HSz.out; have h5 := HB21.out.size; have h6 := HB1820.out.size; omega
      have HQ525 : Hid (Blk w25 b5 30 #[.int .i64 jm, .slice jA ja jk, .slice jB jb jl, .int .i64 jq, .slice jC jc jo, .slice jD jd jp]) := Lib.hid ((HFar.out b5 hge (HQ5v.out.below HB24.out HQ5v.out.lt).lt).trans (HQ5v.out.below HB24.out HQ5v.out.lt))
      have HQ625 : Hid (Blk w25 b6 30 #[.int .i64 zm, .slice zA za zk, .slice zB zb zl, .int .i64 zq, .slice zC zc zo, .slice zD zd zp]) := Lib.hid ((HFar.out b6 hge6 HQ6.out.lt).trans HQ6.out)
      have HI525 : Hid (InS w25 t5) := Lib.hid (HO525.out.inS rfl HI5.out)
      have HI625 : Hid (InS w25 t6) := Lib.hid (HO625.out.inS HV6.out HI5.out)
      have HSb := Lib.hid (refsames_any t5 t6 w25 HI525.out HI625.out)
      rw [HT5.out, HT6.out, decide_eq_true HV6.out.symm] at HSb
      obtain ⟨x0, x1, x2, x3, x4, x5⟩ : w25.cell? ⟨b5, 0, none⟩ = some (.int .i64 jm) ∧ w25.cell? ⟨b5, 1, none⟩ = some (.slice jA ja jk) ∧ w25.cell? ⟨b5, 2, none⟩ = some (.slice jB jb jl) ∧ w25.cell? ⟨b5, 3, none⟩ = some (.int .i64 jq) ∧ w25.cell? ⟨b5, 4, none⟩ = some (.slice jC jc jo) ∧ w25.cell? ⟨b5, 5, none⟩ = some (.slice jD jd jp) := ⟨HQ525.out.cell 0, HQ525.out.cell 1, HQ525.out.cell 2, HQ525.out.cell 3, HQ525.out.cell 4, HQ525.out.cell 5⟩
      obtain ⟨y0, y1, y2, y3, y4, y5⟩ : w25.cell? ⟨b6, 0, none⟩ = some (.int .i64 zm) ∧ w25.cell? ⟨b6, 1, none⟩ = some (.slice zA za zk) ∧ w25.cell? ⟨b6, 2, none⟩ = some (.slice zB zb zl) ∧ w25.cell? ⟨b6, 3, none⟩ = some (.int .i64 zq) ∧ w25.cell? ⟨b6, 4, none⟩ = some (.slice zC zc zo) ∧ w25.cell? ⟨b6, 5, none⟩ = some (.slice zD zd zp) := ⟨HQ625.out.cell 0, HQ625.out.cell 1, HQ625.out.cell 2, HQ625.out.cell 3, HQ625.out.cell 4, HQ625.out.cell 5⟩
      clear hge hge6
      go_wp2_with fail
      clear y0 y1 y2 y3 y4 y5 x0 x1 x2 x3 x4 x5
      refine HSb.out.mono ?_
      rintro e w26 ⟨rfl, hb26⟩
      clear HSb
      have HBw26 : Hid (Below w.heap.size w w26) := Lib.hid (HBw25.out.trans (hb26.mono HBw25.out.size))
      clear hb26
      have HRf := Lib.hid (refhomes_any A n c A' i c' hs w26 ((HRh.out.below HBw26.out).more HBw26.out.size) (by omega) hn)
      rw [← HL.out] at HRf
      rcases HER.out with ⟨rfl, hh⟩ | ⟨rfl, hh⟩
      · rw [decide_eq_true hh] at HRf
        clear hh
        go_wp2_with fail
        rw [HL.out] at HRf
        refine HRf.out.mono ?_
        rintro e w27 ⟨rfl, hb27⟩
        have HB27 := Lib.hid (HBw26.out.trans (hb27.mono HBw26.out.size))
        clear hb27
        go_wp2_with fail
        go_ret
        exact ⟨rfl, HB27.out⟩
      · rw [decide_eq_false hh] at HRf
        clear hh
        go_wp2_with fail
        rw [HL.out] at HRf
        refine HRf.out.mono ?_
        rintro e w27 ⟨rfl, hb27⟩
        have HB27 := Lib.hid (HBw26.out.trans (hb27.mono HBw26.out.size))
        clear hb27
        go_wp2_with fail
        go_ret
        exact ⟨rfl, HB27.out⟩
end Go.Proofs.Ytcicpgiljceioaa.Pk
