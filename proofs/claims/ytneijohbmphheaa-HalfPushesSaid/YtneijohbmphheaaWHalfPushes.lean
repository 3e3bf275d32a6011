/- The walk of the law HalfPushes. -/
import Derived.Test.YtneijohbmphheaaHfWakes
import Derived.Test.YtneijohbmphheaaHfRef2
import Derived.Test.YtneijohbmphheaaHfArgs
namespace Go.Proofs.Ytneijohbmphheaa.Pk
open Go.RowKit Go.Proofs.Ytneijohbmphheaa.Ar
set_option linter.unusedVariables false
set_option maxRecDepth 100000 in
set_option maxHeartbeats 4000000 in
theorem law_HalfPushes (HG : GoodH) (HP : PushH) (HF : FitsH) (HH : HeardH) (h : Hf) (A : Option Addr) (n c : Nat) (m : Mg) (w : World) (hk : ArgH w h A n c) (hm : m.I) :
    Calls Try.prog 3 #[h.val (.slice A n c), m.val] w fun e w' => e = .returned (.bool true) ∧ Below w.heap.size w w' := by
  have HW := Lib.hid (fun w => wakes_any HP HF HH w)
  have HPu := Lib.hid (fun w' (hb : Below w.heap.size w w') => HP h m A n c w' (hk.next hb) hm)
  have HRp := Lib.hid (fun w' (hb : Below w.heap.size w w') => refpush_any h m A n c w' (hk.next hb) hm)
  have HGd := Lib.hid (fun w' (hb : Below w.heap.size w w') => HG h A n c w' (hk.next hb))
  have HRg := Lib.hid (fun w' (hb : Below w.heap.size w w') => refgood_any h A n c w' (hk.next hb))
  have HLo := Lib.hid (hpush_len h m)
  clear hk hm HG HP HF HH
  obtain ⟨r, hr⟩ : ∃ r, r = hpush h m := ⟨_, rfl⟩
  obtain ⟨g, hg⟩ : ∃ g, g = decide h.Be := ⟨_, rfl⟩
  rw [← hr] at HPu HRp HLo
  rw [← hg] at HGd HRg
  clear hr hg
  obtain ⟨p, b, o, s⟩ := h
  obtain ⟨mk, mo, mn, mu, mv⟩ := m
  obtain ⟨⟨rp, rb, ro, rs⟩, re⟩ := r
  unfold Hf.val at HGd HRg
  unfold Hf.val Mg.val at HPu HRp
  unfold Hf.val Mg.val
  simp only at HPu HRp HGd HRg HLo ⊢
  obtain ⟨xe, hxe⟩ : ∃ x, x = w.heap.size := ⟨_, rfl⟩
  obtain ⟨xm, hxm⟩ : ∃ x, x = xe + 1 := ⟨_, rfl⟩
  obtain ⟨wa, hwa⟩ : ∃ wa, wa = w.alloc (.cells #[.int .i64 p, .int .i64 b, .slice A n c, .int .i64 s] 24) := ⟨_, rfl⟩
  obtain ⟨w0, hw0⟩ : ∃ w0, w0 = wa.alloc (.cells #[.int .i64 mk, .int .i64 mo, .int .i64 mn, .int .i64 mu, .int .i64 mv] 26) := ⟨_, rfl⟩
  have hsa : wa.heap.size = xe + 1 := by rw [hwa, World.size_alloc, hxe]
  have HB0 : Hid (Below w.heap.size w w0) := Lib.hid (hw0 ▸ ((show Below w.heap.size w wa from hwa ▸ (Below.refl _ _).alloc (Nat.le_refl _) _).alloc (by omega) _))
  have HE0 : Hid (Blk w0 xe 24 #[.int .i64 p, .int .i64 b, .slice A n c, .int .i64 s]) := Lib.hid (by rw [hw0, hwa, hxe]; exact (Blk.new w _ _).alloc _)
  have HM0 : Hid (Blk w0 xm 26 #[.int .i64 mk, .int .i64 mo, .int .i64 mn, .int .i64 mu, .int .i64 mv]) := Lib.hid (by rw [hw0, hxm, ← hsa]; exact Blk.new wa _ _)
  go_enter Try.func3, Try.ntmps3
  go_wp2_with fail
  rw [← hwa, ← hw0, ← hxe, ← hxm]
  clear hwa hw0 hxe hxm hsa wa
  refine (HW.out w0).mono ?_
  rintro e w1 ⟨rfl, hb⟩
  have HB1 := Lib.hid (HB0.out.trans (hb.mono HB0.out.size))
  have HE1 := Lib.hid (HE0.out.below hb HE0.out.lt)
  have HM1 := Lib.hid (HM0.out.below hb HM0.out.lt)
  have e1 := HE1.out
  have m1 := HM1.out
  have z0 : w1.cell? ⟨xe, 0, none⟩ = some (.int .i64 p) := e1.cell 0
  have z1 : w1.cell? ⟨xe, 1, none⟩ = some (.int .i64 b) := e1.cell 1
  have z2 : w1.cell? ⟨xe, 2, none⟩ = some (.slice A n c) := e1.cell 2
  have z3 : w1.cell? ⟨xe, 3, none⟩ = some (.int .i64 s) := e1.cell 3
  have y0 : w1.cell? ⟨xm, 0, none⟩ = some (.int .i64 mk) := m1.cell 0
  have y1 : w1.cell? ⟨xm, 1, none⟩ = some (.int .i64 mo) := m1.cell 1
  have y2 : w1.cell? ⟨xm, 2, none⟩ = some (.int .i64 mn) := m1.cell 2
  have y3 : w1.cell? ⟨xm, 3, none⟩ = some (.int .i64 mu) := m1.cell 3
  have y4 : w1.cell? ⟨xm, 4, none⟩ = some (.int .i64 mv) := m1.cell 4
  clear hb e1 m1
  go_wp2_with fail
  refine (HPu.out w1 HB1.out).mono ?_
  rintro e w2 ⟨v2, rfl, ho2, hb⟩
  obtain ⟨A2, n2, c2, rfl⟩ := ownG_slice ho2
  have HB2 := Lib.hid (HB1.out.trans (hb.mono HB1.out.size))
  obtain ⟨xa, hxa⟩ : ∃ x, x = w2.heap.size := ⟨_, rfl⟩
  obtain ⟨w3, hw3⟩ : ∃ v, v = w2.alloc (.cells #[.int .i64 rp, .int .i64 rb, .slice A2 n2 c2, .int .i64 rs] 24) := ⟨_, rfl⟩
  have hba : Below w2.heap.size w2 w3 := hw3 ▸ (Below.refl _ _).alloc (Nat.le_refl _) _
  have HB3 := Lib.hid (HB2.out.trans (hba.mono HB2.out.size))
  have HA3 : Hid (Blk w3 xa 24 #[.int .i64 rp, .int .i64 rb, .slice A2 n2 c2, .int .i64 rs]) := Lib.hid (by rw [hw3, hxa]; exact Blk.new w2 _ _)
  have HE3 := Lib.hid ((HE1.out.below hb HE1.out.lt).below hba (HE1.out.below hb HE1.out.lt).lt)
  have HM3 := Lib.hid ((HM1.out.below hb HM1.out.lt).below hba (HM1.out.below hb HM1.out.lt).lt)
  have HO3 := Lib.hid (OwnG.below ho2 hba)
  have e1 := HE3.out
  have m1 := HM3.out
  have le2 : xe < w2.heap.size := (HE1.out.below hb HE1.out.lt).lt
  have lm2 : xm < w2.heap.size := (HM1.out.below hb HM1.out.lt).lt
  have zz := (HE1.out.below hb HE1.out.lt)
  have yy := (HM1.out.below hb HM1.out.lt)
  clear ho2 hba z0 z1 z2 z3 y0 y1 y2 y3 y4
  have z0 : w2.cell? ⟨xe, 0, none⟩ = some (.int .i64 p) := zz.cell 0
  have z1 : w2.cell? ⟨xe, 1, none⟩ = some (.int .i64 b) := zz.cell 1
  have z2 : w2.cell? ⟨xe, 2, none⟩ = some (.slice A n c) := zz.cell 2
  have z3 : w2.cell? ⟨xe, 3, none⟩ = some (.int .i64 s) := zz.cell 3
  have y0 : w2.cell? ⟨xm, 0, none⟩ = some (.int .i64 mk) := yy.cell 0
  have y1 : w2.cell? ⟨xm, 1, none⟩ = some (.int .i64 mo) := yy.cell 1
  have y2 : w2.cell? ⟨xm, 2, none⟩ = some (.int .i64 mn) := yy.cell 2
  have y3 : w2.cell? ⟨xm, 3, none⟩ = some (.int .i64 mu) := yy.cell 3
  have y4 : w2.cell? ⟨xm, 4, none⟩ = some (.int .i64 mv) := yy.cell 4
  clear hb e1 m1 zz yy
  go_wp2_with fail
  rw [← hw3, ← hxa]
  clear hw3 hxa
  refine (HRp.out w3 HB3.out).mono ?_
  rintro e w4 ⟨v4, rfl, ho4, hb⟩
  obtain ⟨A3, n3, c3, rfl⟩ := ownG_slice ho4
  have HB4 := Lib.hid (HB3.out.trans (hb.mono HB3.out.size))
  obtain ⟨xb, hxb⟩ : ∃ x, x = w4.heap.size := ⟨_, rfl⟩
  obtain ⟨w5, hw5⟩ : ∃ v, v = w4.alloc (.cells #[.int .i64 rp, .int .i64 rb, .slice A3 n3 c3, .int .i64 rs] 24) := ⟨_, rfl⟩
  have hba : Below w4.heap.size w4 w5 := hw5 ▸ (Below.refl _ _).alloc (Nat.le_refl _) _
  have HB5 := Lib.hid (HB4.out.trans (hba.mono HB4.out.size))
  have HK5 : Hid (Blk w5 xb 24 #[.int .i64 rp, .int .i64 rb, .slice A3 n3 c3, .int .i64 rs]) := Lib.hid (by rw [hw5, hxb]; exact Blk.new w4 _ _)
  have HE5 := Lib.hid ((HE3.out.below hb HE3.out.lt).below hba (HE3.out.below hb HE3.out.lt).lt)
  have HA5 := Lib.hid ((HA3.out.below hb HA3.out.lt).below hba (HA3.out.below hb HA3.out.lt).lt)
  have HO5 := Lib.hid (OwnG.below (OwnG.below HO3.out hb) hba)
  have HP5 := Lib.hid (OwnG.below ho4 hba)
  have e1 := HE5.out
  have a1 := HA5.out
  have b1 := HK5.out
  clear ho4 hba z0 z1 z2 z3 y0 y1 y2 y3 y4 le2 lm2
  have z0 : w5.cell? ⟨xe, 0, none⟩ = some (.int .i64 p) := e1.cell 0
  have z1 : w5.cell? ⟨xe, 1, none⟩ = some (.int .i64 b) := e1.cell 1
  have z2 : w5.cell? ⟨xe, 2, none⟩ = some (.slice A n c) := e1.cell 2
  have z3 : w5.cell? ⟨xe, 3, none⟩ = some (.int .i64 s) := e1.cell 3
  have p0 : w5.cell? ⟨xa, 0, none⟩ = some (.int .i64 rp) := a1.cell 0
  have p1 : w5.cell? ⟨xa, 1, none⟩ = some (.int .i64 rb) := a1.cell 1
  have p2 : w5.cell? ⟨xa, 2, none⟩ = some (.slice A2 n2 c2) := a1.cell 2
  have p3 : w5.cell? ⟨xa, 3, none⟩ = some (.int .i64 rs) := a1.cell 3
  have q0 : w5.cell? ⟨xb, 0, none⟩ = some (.int .i64 rp) := b1.cell 0
  have q1 : w5.cell? ⟨xb, 1, none⟩ = some (.int .i64 rb) := b1.cell 1
  have q2 : w5.cell? ⟨xb, 2, none⟩ = some (.slice A3 n3 c3) := b1.cell 2
  have q3 : w5.cell? ⟨xb, 3, none⟩ = some (.int .i64 rs) := b1.cell 3
  clear hb e1 a1 b1
  go_wp2_with fail
  rw [← hw5, ← hxb]
  clear hw5 hxb
  have HRs5 := Lib.hid (show Reads w5 w5.heap.size 5 A2 n2 (mgs ro) from ownG_reads HO5.out)
  have HRt5 := Lib.hid (show Reads w5 w5.heap.size 5 A3 n3 (mgs ro) from ownG_reads HP5.out)
  have HSm := Lib.hid (fun w' (hb : Below w5.heap.size w5 w') => sameH ⟨rp, rb, ro, rs⟩ ⟨rp, rb, ro, rs⟩ A2 A3 n2 c2 n3 c3 w' ((HRs5.out.below hb).more hb.size) ((HRt5.out.below hb).more hb.size) (by have h1 := HRs5.out.mlen; have h2 := HLo.out; omega))
  have KE : Hid (∀ w', Below w5.heap.size w5 w' → w'.cell? ⟨xe, 0, none⟩ = some (.int .i64 p) ∧ w'.cell? ⟨xe, 1, none⟩ = some (.int .i64 b) ∧ w'.cell? ⟨xe, 2, none⟩ = some (.slice A n c) ∧ w'.cell? ⟨xe, 3, none⟩ = some (.int .i64 s) ∧ w'.cell? ⟨xa, 0, none⟩ = some (.int .i64 rp) ∧ w'.cell? ⟨xa, 1, none⟩ = some (.int .i64 rb) ∧ w'.cell? ⟨xa, 2, none⟩ = some (.slice A2 n2 c2) ∧ w'.cell? ⟨xa, 3, none⟩ = some (.int .i64 rs) ∧ w'.cell? ⟨xb, 0, none⟩ = some (.int .i64 rp) ∧ w'.cell? ⟨xb, 1, none⟩ = some (.int .i64 rb) ∧ w'.cell? ⟨xb, 2, none⟩ = some (.slice A3 n3 c3) ∧ w'.cell? ⟨xb, 3, none⟩ = some (.int .i64 rs)) := Lib.hid (fun w' hb => keep12 hb HE5.out HA5.out HK5.out)
  have Z0 := KE.out (w5.drewN 1) (below_drewN_ (Below.refl _ _) 1)
  unfold Hf.val at HSm
  refine wp_region_noPanic ?_
  go_region_held3 (fun w' => w'.cell? ⟨xe, 0, none⟩ = some (.int .i64 p) ∧ w'.cell? ⟨xe, 1, none⟩ = some (.int .i64 b) ∧ w'.cell? ⟨xe, 2, none⟩ = some (.slice A n c) ∧ w'.cell? ⟨xe, 3, none⟩ = some (.int .i64 s) ∧ w'.cell? ⟨xa, 0, none⟩ = some (.int .i64 rp) ∧ w'.cell? ⟨xa, 1, none⟩ = some (.int .i64 rb) ∧ w'.cell? ⟨xa, 2, none⟩ = some (.slice A2 n2 c2) ∧ w'.cell? ⟨xa, 3, none⟩ = some (.int .i64 rs) ∧ w'.cell? ⟨xb, 0, none⟩ = some (.int .i64 rp) ∧ w'.cell? ⟨xb, 1, none⟩ = some (.int .i64 rb) ∧ w'.cell? ⟨xb, 2, none⟩ = some (.slice A3 n3 c3) ∧ w'.cell? ⟨xb, 3, none⟩ = some (.int .i64 rs)) (first | exact Z0 | exact Z1 | exact Z2 | exact Z3 | go_keep) (first
    | (go_at_call 13; go_must (refine (HGd.out _ (below_drewN_ HB5.out 1)).mono ?_; rintro e w6 ⟨rfl, hb⟩; have HB6 : Hid (Below w5.heap.size w5 w6) := Lib.hid ⟨hb.os, hb.tape, hb.output, hb.size, hb.block⟩; have Z1 := KE.out w6 HB6.out; clear hb))
    | (go_at_call 14; go_must (refine (HRg.out _ (HB5.out.trans (HB6.out.mono HB5.out.size))).mono ?_; rintro e w7 ⟨rfl, hb⟩; have HB7 : Hid (Below w5.heap.size w5 w7) := Lib.hid (HB6.out.trans (hb.mono HB6.out.size)); have Z2 := KE.out w7 HB7.out; clear hb))
    | (go_at_call 15; go_must (refine (HSm.out _ HB7.out).mono ?_; rintro e w8 ⟨rfl, hb⟩; have HB8 : Hid (Below w5.heap.size w5 w8) := Lib.hid (HB7.out.trans (hb.mono HB7.out.size)); have Z3 := KE.out w8 HB8.out; clear hb)))
  all_goals refine NoPanic.normal ?_
  all_goals
    go_wp2
    go_ret
    exact ⟨rfl, HB5.out.trans (HB8.out.mono HB5.out.size)⟩
end Go.Proofs.Ytneijohbmphheaa.Pk
