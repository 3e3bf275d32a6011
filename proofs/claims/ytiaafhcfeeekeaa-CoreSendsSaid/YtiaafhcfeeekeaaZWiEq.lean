/- The landed Apply of package core. -/
import Derived.Test.YtiaafhcfeeekeaaZCoEvent
import Derived.Test.YtiaafhcfeeekeaaZStClone
import Derived.Test.YtiaafhcfeeekeaaZStCopyP
import Derived.Test.YtiaafhcfeeekeaaZCoLose
import Derived.Test.YtiaafhcfeeekeaaZTrCheck
import Derived.Test.YtiaafhcfeeekeaaZStPut
import Derived.Test.YtiaafhcfeeekeaaZHfMath
import Derived.Outline
namespace Go.Proofs.Ytiaafhcfeeekeaa.Pk
open Go.RowKit Go.Proofs.Ytiaafhcfeeekeaa.Gr
set_option linter.unusedVariables false
def zeroA : StL := ⟨0, [], ⟨none, 0, 0⟩, [], ⟨none, 0, 0⟩, 0, [], ⟨none, 0, 0⟩, [], ⟨none, 0, 0⟩⟩
theorem zeroA_own (w : World) (B : Nat) : OwnX w B zeroA := .inl ⟨OwnO.none_ _ _, OwnE.none_ _ _, Row.Own.none_ _ _, Row.Own.none_ _ _, List.nodup_nil⟩
theorem applyS_fault {ps : List Int} {s : St} {ev : Ev} (h : faultS ps s ev ≠ 0) : applyS ps s ev = (St.zero, 0, faultS ps s ev) := by
  unfold faultS at h ⊢
  by_cases hg : GoodS ps s
  · rw [if_neg (fun x => x hg)] at h ⊢
    by_cases h1 : ev.k < 1 ∨ 4 < ev.k
    · have e : (stepS ps s ev).2.2 = 25 := by unfold stepS; rw [if_pos h1]
      rw [if_pos h1, applyS_err hg (by rw [e]; decide), e]
    · rw [if_neg h1] at h ⊢
      by_cases h4 : ev.k = 4
      · rw [if_pos h4] at h ⊢
        by_cases hc : ComesS ps s ev.g
        · rw [if_pos hc] at h; exact absurd rfl h
        · have e : (stepS ps s ev).2.2 = 25 := by unfold stepS; rw [if_neg h1, if_pos h4]; unfold gramS; rw [if_pos hc]
          rw [if_neg hc, applyS_err hg (by rw [e]; decide), e]
      · rw [if_neg h4] at h ⊢
        by_cases h5 : ev.o < 0 ∨ (s.os.length : Int) ≤ ev.o
        · have e : (stepS ps s ev).2.2 = 20 := by unfold stepS; rw [if_neg h1, if_neg h4, if_pos h5]
          rw [if_pos h5, applyS_err hg (by rw [e]; decide), e]
        · rw [if_neg h5] at h; exact absurd rfl h
  · rw [if_pos hg]
    exact applyS_bad hg
theorem fault_zero {ps : List Int} {s : St} {ev : Ev} (h : faultS ps s ev = 0) : GoodS ps s ∧ EvOk ps s ev := by
  unfold faultS at h
  by_cases hg : GoodS ps s
  · rw [if_neg (fun x => x hg)] at h
    by_cases h1 : ev.k < 1 ∨ 4 < ev.k
    · rw [if_pos h1] at h; cases h
    · rw [if_neg h1] at h
      by_cases h4 : ev.k = 4
      · rw [if_pos h4] at h
        by_cases hc : ComesS ps s ev.g
        · exact ⟨hg, ⟨by omega, by omega⟩, fun _ => hc, fun h => absurd h4 h⟩
        · rw [if_neg hc] at h; cases h
      · rw [if_neg h4] at h
        by_cases h5 : ev.o < 0 ∨ (s.os.length : Int) ≤ ev.o
        · rw [if_pos h5] at h; cases h
        · exact ⟨hg, ⟨by omega, by omega⟩, fun h => absurd h h4, fun _ => by omega⟩
  · rw [if_pos hg] at h; cases h
set_option maxRecDepth 100000 in
set_option maxHeartbeats 16000000 in
theorem applyC : CoApplyP := by
  intro T g ps s ev w htr G hin hI
  have HF := Lib.hid (fun W (hW : Below w.heap.size w W) => faultC_any T g ps s ev W (htr.below_ hW) G (hin.next hW) hI)
  have HCp := Lib.hid (fun W (hW : Below w.heap.size w W) => copyS s W (hin.next hW))
  have HTr := Lib.hid (fun W (hW : Below w.heap.size w W) => htr.below_ hW)
  have HTl : Hid (T < w.heap.size ∧ g < w.heap.size) := Lib.hid ⟨htr.lt T (.inl rfl), htr.lt g (.inr rfl)⟩
  have HG := Lib.hid G
  have HI := Lib.hid hI
  obtain ⟨R, hR⟩ : ∃ R, R = applyS ps s.v ev := ⟨_, rfl⟩
  have HRe := Lib.hid hR
  obtain ⟨Rs, Rn, Re⟩ := R
  rw [← hR]
  obtain ⟨F, hF⟩ : ∃ F, F = faultS ps s.v ev := ⟨_, rfl⟩
  rw [← hF] at HF
  have HFe := Lib.hid hF
  obtain ⟨s0, hs0⟩ : ∃ s0, s0 = s := ⟨_, rfl⟩
  have HS0 : Hid (s0.v = s.v) := Lib.hid (by rw [hs0])
  rw [← HS0.out] at HRe HFe
  obtain ⟨ev0, hev0⟩ : ∃ e, e = ev := ⟨_, rfl⟩
  rw [← hev0] at HRe HFe HI
  clear htr G hin hI hR hF hs0
  have HEv : Hid (ev0.val = ev.val) := Lib.hid (by rw [hev0])
  clear hev0
  have HSv := HS0
  obtain ⟨me, os, ⟨D1, d1, k1⟩, es, ⟨D2, d2, k2⟩, q0, as_, ⟨D3, d3, k3⟩, gs, ⟨D4, d4, k4⟩⟩ := s
  obtain ⟨ek, eo, ⟨gf, gt, ga, gs_, ⟨mk, mo, mn, mu, mv⟩⟩⟩ := ev
  simp only [StL.val, Sl.val, Ev.val] at HF HCp
  have HEv : Hid (ev0.val = .agg #[.int .i64 ek, .int .i64 eo, .int .i64 gf, .int .i64 gt, .int .i64 ga, .int .i64 gs_, .int .i64 mk, .int .i64 mo, .int .i64 mn, .int .i64 mu, .int .i64 mv]) := Lib.hid (by rw [HEv.out]; rfl)
  show Calls Try.prog 13 #[.pointer (some ⟨T, 0, none⟩), .agg #[.int .i64 me, .slice D1 d1 k1, .slice D2 d2 k2, .int .i64 q0, .slice D3 d3 k3, .slice D4 d4 k4], .agg #[.int .i64 ek, .int .i64 eo, .int .i64 gf, .int .i64 gt, .int .i64 ga, .int .i64 gs_, .int .i64 mk, .int .i64 mo, .int .i64 mn, .int .i64 mu, .int .i64 mv]] w _
  obtain ⟨p, hp⟩ : ∃ p, p = w.heap.size := ⟨_, rfl⟩
  obtain ⟨q, hq⟩ : ∃ q, q = p + 1 := ⟨_, rfl⟩
  obtain ⟨r, hr⟩ : ∃ r, r = q + 1 := ⟨_, rfl⟩
  obtain ⟨wa, hwa⟩ : ∃ W, W = w.alloc (.cells #[.int .i64 me, .slice D1 d1 k1, .slice D2 d2 k2, .int .i64 q0, .slice D3 d3 k3, .slice D4 d4 k4] 28) := ⟨_, rfl⟩
  obtain ⟨wb, hwb⟩ : ∃ W, W = wa.alloc (.cells #[.int .i64 ek, .int .i64 eo, .int .i64 gf, .int .i64 gt, .int .i64 ga, .int .i64 gs_, .int .i64 mk, .int .i64 mo, .int .i64 mn, .int .i64 mu, .int .i64 mv] 34) := ⟨_, rfl⟩
  obtain ⟨W1, hW1⟩ : ∃ W, W = wb.alloc (.cells #[.int .i64 0, .slice none 0 0, .slice none 0 0, .int .i64 0, .slice none 0 0, .slice none 0 0] 28) := ⟨_, rfl⟩
  have hsa : wa.heap.size = p + 1 := by rw [hwa, World.size_alloc, hp]
  have hsb : wb.heap.size = p + 1 + 1 := by rw [hwb, World.size_alloc, hsa]
  have hba : Below w.heap.size w wa := hwa ▸ (Below.refl _ _).alloc (Nat.le_refl _) _
  have hbb : Below w.heap.size w wb := hwb ▸ hba.alloc (by omega) _
  have HB1 : Hid (Below w.heap.size w W1) := Lib.hid (hW1 ▸ hbb.alloc (by omega) _)
  have HP : Hid (Blk W1 p 28 #[.int .i64 me, .slice D1 d1 k1, .slice D2 d2 k2, .int .i64 q0, .slice D3 d3 k3, .slice D4 d4 k4]) := Lib.hid (by rw [hW1, hwb, hwa, hp]; exact ((Blk.new w _ _).alloc _).alloc _)
  have HQ : Hid (Blk W1 q 34 #[.int .i64 ek, .int .i64 eo, .int .i64 gf, .int .i64 gt, .int .i64 ga, .int .i64 gs_, .int .i64 mk, .int .i64 mo, .int .i64 mn, .int .i64 mu, .int .i64 mv]) := Lib.hid (by rw [hW1, hwb, hq, ← hsa]; exact (Blk.new wa _ _).alloc _)
  have HR : Hid (Blk W1 r 28 #[.int .i64 0, .slice none 0 0, .slice none 0 0, .int .i64 0, .slice none 0 0, .slice none 0 0]) := Lib.hid (by rw [hW1, hr, hq, ← hsb]; exact Blk.new wb _ _)
  have HRw : Hid (w.heap.size ≤ r) := Lib.hid (by omega)
  have HX : Hid (∀ W, Below W1.heap.size W1 W → W.cell? ⟨p, 0, none⟩ = some (.int .i64 me) ∧ W.cell? ⟨p, 1, none⟩ = some (.slice D1 d1 k1) ∧ W.cell? ⟨p, 2, none⟩ = some (.slice D2 d2 k2) ∧ W.cell? ⟨p, 3, none⟩ = some (.int .i64 q0) ∧ W.cell? ⟨p, 4, none⟩ = some (.slice D3 d3 k3) ∧ W.cell? ⟨p, 5, none⟩ = some (.slice D4 d4 k4) ∧ W.cell? ⟨q, 0, none⟩ = some (.int .i64 ek) ∧ W.cell? ⟨q, 1, none⟩ = some (.int .i64 eo) ∧ W.cell? ⟨q, 2, none⟩ = some (.int .i64 gf) ∧ W.cell? ⟨q, 3, none⟩ = some (.int .i64 gt) ∧ W.cell? ⟨q, 4, none⟩ = some (.int .i64 ga) ∧ W.cell? ⟨q, 5, none⟩ = some (.int .i64 gs_) ∧ W.cell? ⟨q, 6, none⟩ = some (.int .i64 mk) ∧ W.cell? ⟨q, 7, none⟩ = some (.int .i64 mo) ∧ W.cell? ⟨q, 8, none⟩ = some (.int .i64 mn) ∧ W.cell? ⟨q, 9, none⟩ = some (.int .i64 mu) ∧ W.cell? ⟨q, 10, none⟩ = some (.int .i64 mv)) := Lib.hid (fun W hW => by
    have h1 := HP.out.below hW HP.out.lt
    have h2 := HQ.out.below hW HQ.out.lt
    exact ⟨h1.cell 0, h1.cell 1, h1.cell 2, h1.cell 3, h1.cell 4, h1.cell 5, h2.cell 0, h2.cell 1, h2.cell 2, h2.cell 3, h2.cell 4, h2.cell 5, h2.cell 6, h2.cell 7, h2.cell 8, h2.cell 9, h2.cell 10⟩)
  obtain ⟨x0, x1, x2, x3, x4, x5, y0, y1, y2, y3, y4, y5, y6, y7, y8, y9, y10⟩ := HX.out W1 (Below.refl _ _)
  have HWa := Lib.hid hwa
  have HWb := Lib.hid hwb
  have HW1 := Lib.hid hW1
  rw [hW1, hwb, hwa] at x0 x1 x2 x3 x4 x5 y0 y1 y2 y3 y4 y5 y6 y7 y8 y9 y10
  clear hsa hsb hba hbb
  go_enter Try.func13, Try.ntmps13
  go_wp2_with fail
  rw [← HWa.out, ← HWb.out, ← HW1.out, ← hp, ← hq, ← hr]
  clear hwa hwb hW1 hp hq hr x0 x1 x2 x3 x4 x5 y0 y1 y2 y3 y4 y5 y6 y7 y8 y9 y10
  refine (HF.out W1 HB1.out).mono ?_
  rintro e w2 ⟨rfl, hb2⟩
  have HB2 := Lib.hid hb2
  have HBr : Hid (Below w.heap.size w w2) := Lib.hid (HB1.out.trans (hb2.mono HB1.out.size))
  have HKr := Lib.hid (HR.out.below hb2 HR.out.lt)
  clear hb2
  by_cases h0 : F = 0
  · subst h0
    obtain ⟨hgood, hok⟩ := fault_zero HFe.out.symm
    have HGood := Lib.hid hgood
    have HOk := Lib.hid hok
    clear hgood hok
    obtain ⟨x0, x1, x2, x3, x4, x5, y0, y1, y2, y3, y4, y5, y6, y7, y8, y9, y10⟩ := HX.out w2 HB2.out
    go_wp2_with fail
    clear x0 x1 x2 x3 x4 x5 y0 y1 y2 y3 y4 y5 y6 y7 y8 y9 y10
    refine (HCp.out w2 HBr.out).mono ?_
    rintro e w3 ⟨s2, rfl, hv3, ho3, hb3⟩
    have HV3 := Lib.hid hv3
    have HO3 := Lib.hid ho3
    have HB3 := Lib.hid hb3
    clear hv3 ho3 hb3
    obtain ⟨s2c, hs2c⟩ : ∃ z, z = s2 := ⟨_, rfl⟩
    rw [← hs2c] at HV3 HO3
    have HS2 := Lib.hid hs2c
    clear hs2c
    obtain ⟨Me, Os, ⟨E1, e1, l1⟩, Es, ⟨E2, e2, l2⟩, Qq, As, ⟨E3, e3, l3⟩, Gs, ⟨E4, e4, l4⟩⟩ := s2
    obtain ⟨pc, hpc⟩ : ∃ x, x = w3.heap.size := ⟨_, rfl⟩
    obtain ⟨w4, hw4⟩ : ∃ W, W = w3.alloc (.cells #[.pointer (some ⟨T, 0, none⟩), .int .i64 Me, .slice E1 e1 l1, .slice E2 e2 l2, .int .i64 Qq, .slice E3 e3 l3, .slice E4 e4 l4] 71) := ⟨_, rfl⟩
    have hb34 : Below w3.heap.size w3 w4 := hw4 ▸ (Below.refl _ _).alloc (Nat.le_refl _) _
    have hc4 : Chg w4 w2.heap.size pc T g ps s2c := by
      rw [HS2.out]
      have ho := HO3.out
      rw [HS2.out] at ho
      refine ⟨by rw [hw4, hpc]; exact Blk.new w3 _ _, ho.below hb34, fun u hu e => by have h1 := (ho.mem u hu pc e).2; omega, by rw [hpc]; exact HB3.out.size, HTr.out w4 (HBr.out.trans ((HB3.out.trans (hb34.mono HB3.out.size)).mono HBr.out.size)), Nat.lt_of_lt_of_le HTl.out.1 HBr.out.size, Nat.lt_of_lt_of_le HTl.out.2 HBr.out.size⟩
    have HC4 := Lib.hid hc4
    have HB24 : Hid (Below w2.heap.size w2 w4) := Lib.hid (HB3.out.trans (hb34.mono HB3.out.size))
    have HEe : Hid (Calls Try.prog 24 #[.pointer (some ⟨pc, 0, none⟩), .agg #[.int .i64 ek, .int .i64 eo, .int .i64 gf, .int .i64 gt, .int .i64 ga, .int .i64 gs_, .int .i64 mk, .int .i64 mo, .int .i64 mn, .int .i64 mu, .int .i64 mv]] w4 fun e w' => ∃ s5 n5 r5, e = .returned (.tuple #[.int .i64 n5, .int .i64 r5]) ∧ n5 = (stepS ps s0.v ev0).2.1 ∧ r5 = (stepS ps s0.v ev0).2.2 ∧ (r5 = 0 → ChgX w' w2.heap.size pc T s5 ∧ s5.v = (stepS ps s0.v ev0).1) ∧ Below w2.heap.size w4 w') := Lib.hid (by
      have hv : s2c.v = s0.v := by rw [HV3.out, HSv.out]
      have := event_any hc4 HG.out (by rw [hv]; exact HGood.out) (ev := ev0) HI.out (by rw [hv]; exact HOk.out)
      rw [HEv.out] at this
      refine this.mono ?_
      rintro e w' ⟨s5, h1, h2, h3⟩
      rw [hv] at h1 h2
      exact ⟨s5, _, _, h1, rfl, rfl, h2, h3⟩)
    obtain ⟨y0, y1, y2, y3, y4, y5, y6, y7, y8, y9, y10⟩ : w4.cell? ⟨q, 0, none⟩ = some (.int .i64 ek) ∧ w4.cell? ⟨q, 1, none⟩ = some (.int .i64 eo) ∧ w4.cell? ⟨q, 2, none⟩ = some (.int .i64 gf) ∧ w4.cell? ⟨q, 3, none⟩ = some (.int .i64 gt) ∧ w4.cell? ⟨q, 4, none⟩ = some (.int .i64 ga) ∧ w4.cell? ⟨q, 5, none⟩ = some (.int .i64 gs_) ∧ w4.cell? ⟨q, 6, none⟩ = some (.int .i64 mk) ∧ w4.cell? ⟨q, 7, none⟩ = some (.int .i64 mo) ∧ w4.cell? ⟨q, 8, none⟩ = some (.int .i64 mn) ∧ w4.cell? ⟨q, 9, none⟩ = some (.int .i64 mu) ∧ w4.cell? ⟨q, 10, none⟩ = some (.int .i64 mv) := by
      have h2 := (HQ.out.below HB2.out HQ.out.lt).below HB24.out (Nat.lt_of_lt_of_le HQ.out.lt HB2.out.size)
      exact ⟨h2.cell 0, h2.cell 1, h2.cell 2, h2.cell 3, h2.cell 4, h2.cell 5, h2.cell 6, h2.cell 7, h2.cell 8, h2.cell 9, h2.cell 10⟩
    rw [hw4] at y0 y1 y2 y3 y4 y5 y6 y7 y8 y9 y10
    have HW4 := Lib.hid hw4
    dsimp only
    clear hb34 hc4 hw4
    go_wp2_with fail
    rw [← HW4.out, ← hpc]
    clear hpc y0 y1 y2 y3 y4 y5 y6 y7 y8 y9 y10
    refine HEe.out.mono ?_
    rintro e w5 ⟨s5, n5, r5, rfl, hn5, hr5, hc5, hb5⟩
    have HN5 := Lib.hid hn5
    have HR5 := Lib.hid hr5
    have HC5 := Lib.hid hc5
    have HB25 : Hid (Below w2.heap.size w2 w5) := Lib.hid (HB24.out.trans hb5)
    have HKr5 := Lib.hid (HKr.out.below HB25.out HKr.out.lt)
    have HBr5 : Hid (Below w.heap.size w w5) := Lib.hid (HBr.out.trans (HB25.out.mono HBr.out.size))
    clear hn5 hr5 hc5 hb5 HKr HBr
    have HKr := HKr5
    by_cases h5 : r5 = 0
    · have t5 : (r5 != 0) = false := by simpa using h5
      obtain ⟨hcx, hv5⟩ := HC5.out h5
      have HCx := Lib.hid hcx
      have HV5 := Lib.hid hv5
      have HAp : Hid ((Rs, Rn, Re) = stepS ps s0.v ev0) := Lib.hid (by rw [HRe.out]; exact applyS_ok HGood.out (by rw [← HR5.out]; exact h5))
      have hbx := hcx.box
      have HLx := Lib.hid hcx.box.lt
      obtain ⟨s5c, hs5c⟩ : ∃ z, z = s5 := ⟨_, rfl⟩
      rw [← hs5c] at HCx HV5
      have HS5 := Lib.hid hs5c
      clear hcx hv5 hs5c HC5
      obtain ⟨Ne, Ot, ⟨F1, f1, m1⟩, Et, ⟨F2, f2, m2⟩, Qr, At, ⟨F3, f3, m3⟩, Gt, ⟨F4, f4, m4⟩⟩ := s5
      simp only [Sl.val] at hbx
      have b1 : w5.cell? ⟨pc, 1, none⟩ = some (.int .i64 Ne) := hbx.cell 1
      have b2 : w5.cell? ⟨pc, 2, none⟩ = some (.slice F1 f1 m1) := hbx.cell 2
      have b3 : w5.cell? ⟨pc, 3, none⟩ = some (.slice F2 f2 m2) := hbx.cell 3
      have b4 : w5.cell? ⟨pc, 4, none⟩ = some (.int .i64 Qr) := hbx.cell 4
      have b5 : w5.cell? ⟨pc, 5, none⟩ = some (.slice F3 f3 m3) := hbx.cell 5
      have b6 : w5.cell? ⟨pc, 6, none⟩ = some (.slice F4 f4 m4) := hbx.cell 6
      obtain ⟨V9, hV9, k9, b9, o9⟩ := set6 HKr.out (.int .i64 Ne) (.slice F1 f1 m1) (.slice F2 f2 m2) (.int .i64 Qr) (.slice F3 f3 m3) (.slice F4 f4 m4)
      have HV9 := Lib.hid hV9
      have HB9 : Hid (Below w.heap.size w V9) := Lib.hid (b9 _ _ HRw.out HBr5.out)
      have HO9 : Hid (OwnX V9 w.heap.size s5c) := Lib.hid (by
        have hrb : r < w2.heap.size := Nat.lt_of_lt_of_le HR.out.lt HB2.out.size
        have hlow := HBr5.out.size
        refine OwnX.low (B := w2.heap.size) ?_ (Nat.le_trans HB1.out.size HB2.out.size)
        exact HCx.out.own.stayX (fun x hx _ => o9 x (by omega)))
      have f0 := HKr.out.frozen
      have u0 : w5.cell? ⟨r, 0, none⟩ = some (.int .i64 0) := HKr.out.cell 0
      have u1 : w5.cell? ⟨r, 1, none⟩ = some (.slice none 0 0) := HKr.out.cell 1
      have u2 : w5.cell? ⟨r, 2, none⟩ = some (.slice none 0 0) := HKr.out.cell 2
      have u3 : w5.cell? ⟨r, 3, none⟩ = some (.int .i64 0) := HKr.out.cell 3
      have u4 : w5.cell? ⟨r, 4, none⟩ = some (.slice none 0 0) := HKr.out.cell 4
      have u5 : w5.cell? ⟨r, 5, none⟩ = some (.slice none 0 0) := HKr.out.cell 5
      have z0 : V9.cell? ⟨r, 0, none⟩ = some (.int .i64 Ne) := k9.cell 0
      have z1 : V9.cell? ⟨r, 1, none⟩ = some (.slice F1 f1 m1) := k9.cell 1
      have z2 : V9.cell? ⟨r, 2, none⟩ = some (.slice F2 f2 m2) := k9.cell 2
      have z3 : V9.cell? ⟨r, 3, none⟩ = some (.int .i64 Qr) := k9.cell 3
      have z4 : V9.cell? ⟨r, 4, none⟩ = some (.slice F3 f3 m3) := k9.cell 4
      have z5 : V9.cell? ⟨r, 5, none⟩ = some (.slice F4 f4 m4) := k9.cell 5
      have HE5 := Lib.hid h5
      clear hV9 b9 o9 k9 hbx h5
      go_wp2_with fail
      rw [← HV9.out]
      refine bodyPost_ret (v := .tuple #[.agg #[.int .i64 Ne, .slice F1 f1 m1, .slice F2 f2 m2, .int .i64 Qr, .slice F3 f3 m3, .slice F4 f4 m4], .int .i64 n5, .int .i64 0]) (by simp [results, Try.f13, go_sem, z0, z1, z2, z3, z4, z5]) rfl ⟨s5c, ?_, ?_, HO9.out, HB9.out⟩
      · have e1 := HAp.out
        have e2 : Rn = n5 := by rw [HN5.out, ← e1]
        have e3 : Re = 0 := by rw [← HE5.out, HR5.out, ← e1]
        rw [e2, e3, HS5.out]
        rfl
      · have e1 := HAp.out
        rw [HV5.out, ← e1]
    · have t5 : (r5 != 0) = true := by simpa using h5
      have HAp : Hid ((Rs, Rn, Re) = (St.zero, 0, r5)) := Lib.hid (by rw [HRe.out, applyS_err HGood.out (by rw [← HR5.out]; exact h5), ← HR5.out])
      have HBr := HBr5
      clear h5
      obtain ⟨V9, hV9, k9, b9, o9⟩ := set6 HKr.out (.int .i64 0) (.slice none 0 0) (.slice none 0 0) (.int .i64 0) (.slice none 0 0) (.slice none 0 0)
      have HV9 := Lib.hid hV9
      have HB9 : Hid (Below w.heap.size w V9) := Lib.hid (b9 _ _ HRw.out HBr.out)
      have f0 := HKr.out.frozen
      have u0 : w5.cell? ⟨r, 0, none⟩ = some (.int .i64 0) := HKr.out.cell 0
      have u1 : w5.cell? ⟨r, 1, none⟩ = some (.slice none 0 0) := HKr.out.cell 1
      have u2 : w5.cell? ⟨r, 2, none⟩ = some (.slice none 0 0) := HKr.out.cell 2
      have u3 : w5.cell? ⟨r, 3, none⟩ = some (.int .i64 0) := HKr.out.cell 3
      have u4 : w5.cell? ⟨r, 4, none⟩ = some (.slice none 0 0) := HKr.out.cell 4
      have u5 : w5.cell? ⟨r, 5, none⟩ = some (.slice none 0 0) := HKr.out.cell 5
      have z0 : V9.cell? ⟨r, 0, none⟩ = some (.int .i64 0) := k9.cell 0
      have z1 : V9.cell? ⟨r, 1, none⟩ = some (.slice none 0 0) := k9.cell 1
      have z2 : V9.cell? ⟨r, 2, none⟩ = some (.slice none 0 0) := k9.cell 2
      have z3 : V9.cell? ⟨r, 3, none⟩ = some (.int .i64 0) := k9.cell 3
      have z4 : V9.cell? ⟨r, 4, none⟩ = some (.slice none 0 0) := k9.cell 4
      have z5 : V9.cell? ⟨r, 5, none⟩ = some (.slice none 0 0) := k9.cell 5
      clear hV9 b9 o9 k9
      go_wp2_with fail
      rw [← HV9.out]
      exact bodyPost_ret (v := .tuple #[.agg #[.int .i64 0, .slice none 0 0, .slice none 0 0, .int .i64 0, .slice none 0 0, .slice none 0 0], .int .i64 0, .int .i64 r5]) (by simp [results, Try.f13, go_sem, z0, z1, z2, z3, z4, z5]) rfl ⟨zeroA, by { have e1 := HAp.out; injection e1 with e1 e2; injection e2 with e2 e3; rw [e2, e3]; rfl }, by { have e1 := HAp.out; injection e1 with e1 e2; rw [e1]; rfl }, zeroA_own _ _, HB9.out⟩
  · have t0 : (F != 0) = true := by simpa using h0
    have HAp : Hid ((Rs, Rn, Re) = (St.zero, 0, F)) := Lib.hid (by rw [HRe.out, applyS_fault (by rw [← HFe.out]; exact h0), ← HFe.out])
    clear h0
    obtain ⟨V9, hV9, k9, b9, o9⟩ := set6 HKr.out (.int .i64 0) (.slice none 0 0) (.slice none 0 0) (.int .i64 0) (.slice none 0 0) (.slice none 0 0)
    have HV9 := Lib.hid hV9
    have HB9 : Hid (Below w.heap.size w V9) := Lib.hid (b9 _ _ HRw.out HBr.out)
    have f0 := HKr.out.frozen
    have u0 : w2.cell? ⟨r, 0, none⟩ = some (.int .i64 0) := HKr.out.cell 0
    have u1 : w2.cell? ⟨r, 1, none⟩ = some (.slice none 0 0) := HKr.out.cell 1
    have u2 : w2.cell? ⟨r, 2, none⟩ = some (.slice none 0 0) := HKr.out.cell 2
    have u3 : w2.cell? ⟨r, 3, none⟩ = some (.int .i64 0) := HKr.out.cell 3
    have u4 : w2.cell? ⟨r, 4, none⟩ = some (.slice none 0 0) := HKr.out.cell 4
    have u5 : w2.cell? ⟨r, 5, none⟩ = some (.slice none 0 0) := HKr.out.cell 5
    have z0 : V9.cell? ⟨r, 0, none⟩ = some (.int .i64 0) := k9.cell 0
    have z1 : V9.cell? ⟨r, 1, none⟩ = some (.slice none 0 0) := k9.cell 1
    have z2 : V9.cell? ⟨r, 2, none⟩ = some (.slice none 0 0) := k9.cell 2
    have z3 : V9.cell? ⟨r, 3, none⟩ = some (.int .i64 0) := k9.cell 3
    have z4 : V9.cell? ⟨r, 4, none⟩ = some (.slice none 0 0) := k9.cell 4
    have z5 : V9.cell? ⟨r, 5, none⟩ = some (.slice none 0 0) := k9.cell 5
    clear hV9 b9 o9 k9
    go_wp2_with fail
    rw [← HV9.out]
    exact bodyPost_ret (v := .tuple #[.agg #[.int .i64 0, .slice none 0 0, .slice none 0 0, .int .i64 0, .slice none 0 0, .slice none 0 0], .int .i64 0, .int .i64 F]) (by simp [results, Try.f13, go_sem, z0, z1, z2, z3, z4, z5]) rfl ⟨zeroA, by { have e1 := HAp.out; injection e1 with e1 e2; injection e2 with e2 e3; rw [e2, e3]; rfl }, by { have e1 := HAp.out; injection e1 with e1 e2; rw [e1]; rfl }, zeroA_own _ _, HB9.out⟩
end Go.Proofs.Ytiaafhcfeeekeaa.Pk

/- The laws' count of an object: cells that aren't waiting, Passes for it. -/
namespace Go.Proofs.Ytiaafhcfeeekeaa.Pk
open Go.RowKit Go.Proofs.Ytiaafhcfeeekeaa.Gr
set_option linter.unusedVariables false
theorem offN_take {l : List Ce} {i : Nat} (h : i < l.length) : offN (l.take (i + 1)) = offN (l.take i) + (if (ceA l i).s ≠ 1 then 1 else 0) := by
  unfold offN
  rw [List.take_add_one, ceA_get h, Option.toList, List.filter_append, List.length_append]
  by_cases hs : (ceA l i).s = 1
  · rw [if_neg (by simp [hs])]; simp [hs]
  · rw [if_pos hs]; simp [hs]
theorem passL_take {l : List Mg} {k : Int} {i : Nat} {m : Mg} (h : l[i]? = some m) : passL (l.take (i + 1)) k = passL (l.take i) k + (if m.k = 2 ∧ m.o = k then 1 else 0) := by
  rw [List.take_add_one, h, Option.toList, passL_add]
theorem passN_app (a : List Hf) (e : Hf) (k : Int) : passN (a ++ [e]) k = passN a k + passL e.o k := by
  induction a with
  | nil => simp [passN]
  | cons x r ih => simp only [List.cons_append, passN, ih]; omega
theorem passN_take {l : List SdL} {k : Int} {i : Nat} {e : SdL} (h : l[i]? = some e) : passN ((l.take (i + 1)).map (·.v)) k = passN ((l.take i).map (·.v)) k + passL e.v.o k := by
  rw [List.take_add_one, h, List.map_append]
  exact passN_app _ _ _
theorem passL_le (l : List Mg) (k : Int) : passL l k ≤ l.length := List.length_filter_le _ _
theorem passN_le {l : List SdL} {k : Int} (h : ∀ e ∈ l, e.v.o.length ≤ 1024) : passN (l.map (·.v)) k ≤ 1024 * l.length := by
  induction l with
  | nil => simp [passN]
  | cons x r ih =>
    have h1 := ih (fun e he => h e (List.mem_cons_of_mem _ he))
    have h2 := h x List.mem_cons_self
    have h3 := passL_le x.v.o k
    simp only [List.map_cons, passN, List.length_cons]
    omega
set_option maxRecDepth 100000 in
set_option maxHeartbeats 8000000 in
theorem there_any (s : StL) (k : Nat) (w : World) (hin : InS w s) (hk : k < s.os.length) (hE : s.es.length ≤ 32 ∧ ∀ e ∈ s.es, e.v.o.length ≤ 1024) :
    Calls Try.prog 15 #[s.val, .int .i64 (k : Int)] w fun e w' => e = .returned (.tuple #[.int .i64 (offN (objA s.v k).c : Nat), .int .i64 (passN s.v.es (k : Int) : Nat)]) ∧ Below w.heap.size w w' := by
  have HI := Lib.hid hin
  have HL1 := Lib.hid hin.os.len
  have HL2 := Lib.hid hin.es.len
  have HE := Lib.hid hE.2
  have he32 := hE.1
  obtain ⟨me, os, ⟨A, n, c⟩, es, ⟨A', n', c'⟩, q, as_, ⟨Aa, na, ca⟩, gs, ⟨Ag, ng, cg⟩⟩ := s
  have hn : n * 40 ≤ 140737488351232 := hin.os.few
  have hn2 : n' * 48 ≤ 140737488351232 := hin.es.few
  simp only at HL1 HL2 HE hk he32
  have hn32 : n' ≤ 32 := by rw [← HL2.out]; exact he32
  clear hin hE he32
  have hkn : k < n := by rw [← HL1.out]; exact hk
  have hg : os[k]? = some os[k] := List.getElem?_eq_getElem hk
  obtain ⟨r, hr⟩ : ∃ r, r = os[k] := ⟨_, rfl⟩
  rw [← hr] at hg
  have HOk := Lib.hid (HI.out.o r (List.mem_of_getElem? hg))
  have HA : Hid (objA (⟨me, os, ⟨A, n, c⟩, es, ⟨A', n', c'⟩, q, as_, ⟨Aa, na, ca⟩, gs, ⟨Ag, ng, cg⟩⟩ : StL).v k = r.v) := Lib.hid (by
    unfold objA
    show (os.map OwL.v).getD k _ = _
    rw [List.getD_eq_getElem?_getD, List.getElem?_map, hg]; rfl)
  rw [HA.out]
  show Calls _ _ _ _ fun e w' => e = .returned (.tuple #[.int .i64 (offN r.v.c : Nat), .int .i64 (passN (es.map (·.v)) (k : Int) : Nat)]) ∧ Below w.heap.size w w'
  clear HA
  obtain ⟨p, hp⟩ : ∃ p, p = w.heap.size := ⟨_, rfl⟩
  obtain ⟨W1, hW1⟩ : ∃ W1, W1 = w.alloc (.cells #[.int .i64 me, .slice A n c, .slice A' n' c', .int .i64 q, .slice Aa na ca, .slice Ag ng cg] 28) := ⟨_, rfl⟩
  have HB1 : Hid (Below w.heap.size w W1) := Lib.hid (hW1 ▸ (Below.refl _ _).alloc (Nat.le_refl _) _)
  have HKp : Hid (Blk W1 p 28 #[.int .i64 me, .slice A n c, .slice A' n' c', .int .i64 q, .slice Aa na ca, .slice Ag ng cg]) := Lib.hid (by rw [hW1, hp]; exact Blk.new w _ _)
  have HX : Hid (∀ W, Below W1.heap.size W1 W → W.cell? ⟨p, 1, none⟩ = some (.slice A n c) ∧ W.cell? ⟨p, 2, none⟩ = some (.slice A' n' c')) := Lib.hid (fun W hW => by
    have h1 := HKp.out.below hW HKp.out.lt
    exact ⟨h1.cell 1, h1.cell 2⟩)
  have HIW := Lib.hid (fun W (hW : Below W1.heap.size W1 W) => HI.out.next (HB1.out.trans (hW.mono HB1.out.size)))
  have HOW := Lib.hid (fun W (hW : Below W1.heap.size W1 W) => HOk.out.next (HB1.out.trans (hW.mono HB1.out.size)))
  obtain ⟨b, off, eA, _, hc⟩ := owR.spots (HIW.out W1 (Below.refl _ _)).os.rd (show 0 < n by omega)
  subst eA
  have m0 := hc k r hg 0 _ rfl
  have m1 := hc k r hg 1 _ rfl
  have m2 := hc k r hg 2 _ rfl
  obtain ⟨⟨ra, rm, rc⟩, ⟨A1, n1, c1⟩⟩ := r
  simp only [owR, Nat.add_zero, Sl.val, ← Nat.add_assoc] at m0 m1 m2
  have HL3 : Hid (rc.length = n1) := Lib.hid HOk.out.c.len
  have hn3 : n1 * 32 ≤ 140737488351232 := HOk.out.c.few
  clear hc hr hg HOk
  simp only [StL.val, Sl.val]
  rw [hW1] at m0 m1 m2
  go_enter Try.func15, Try.ntmps15
  go_wp2_with fail
  rw [← hW1, ← hp]
  clear hW1 hp m0 m1 m2
  go_loopw [6, 21] (fun x j wr => ∃ i : Nat, j = .int .i64 i ∧ i ≤ n1 ∧ x = .int .i64 (offN (rc.take i) : Nat) ∧ Below W1.heap.size W1 wr) (fun _ j _ => n1 - (intOf j).toNat)
  case atStart => exact ⟨0, rfl, by omega, rfl, Below.refl _ _⟩
  case round =>
    obtain ⟨i, rfl, hi, rfl, hb⟩ := hrel
    obtain ⟨w1, rfl⟩ : ∃ w1 : World, w1 = wr := ⟨_, rfl⟩
    have HB := Lib.hid hb
    clear hb
    by_cases hlt : i < n1
    · have hil : i < rc.length := by rw [HL3.out]; exact hlt
      obtain ⟨b1, off1, rfl, _, hc⟩ := ceR.spots (HOW.out w1 HB.out).c.rd (show 0 < n1 by omega)
      have hg := ceA_get hil
      have HS := Lib.hid (offN_take hil)
      have hle : offN (rc.take i) ≤ i := by
        have h1 : offN (rc.take i) ≤ (rc.take i).length := List.length_filter_le _ _
        rw [List.length_take] at h1; omega
      obtain ⟨u, hu⟩ : ∃ u, u = ceA rc i := ⟨_, rfl⟩
      obtain ⟨z, hz⟩ : ∃ z, z = offN (rc.take i) := ⟨_, rfl⟩
      rw [← hu] at hg HS
      rw [← hz] at HS hle
      rw [← hz]
      have m0 := hc i u hg 0 _ rfl
      have m1 := hc i u hg 1 _ rfl
      have m2 := hc i u hg 2 _ rfl
      have m3 := hc i u hg 3 _ rfl
      obtain ⟨u0, u1, u2, u3⟩ := u
      simp only [ceR, Nat.add_zero, ← Nat.add_assoc] at m0 m1 m2 m3 HS
      have HB2 : Hid (Below W1.heap.size W1 (w1.alloc (.cells #[.int .i64 u0, .int .i64 u1, .int .i64 u2, .int .i64 u3] 57))) := Lib.hid (HB.out.alloc HB.out.size _)
      clear hc hg hu hz
      by_cases h9 : u1 = 1
      · have HS2 := HS.out
        rw [if_neg (by simpa using h9)] at HS2
        have HS2 := Lib.hid HS2
        subst h9
        clear HS
        go_wp2
        go_roundw
        case rel => exact ⟨i + 1, by go_num, by omega, by rw [HS2.out, Nat.add_zero], HB2.out⟩
        case measure => simp [intOf]; omega
      · have HS2 := HS.out
        rw [if_pos h9] at HS2
        have HS2 := Lib.hid HS2
        have t1 : (u1 == 1) = false := by simpa using h9
        have t2 : (u1 != 1) = true := by simpa using h9
        clear HS
        go_wp2
        go_roundw
        case rel => exact ⟨i + 1, by go_num, by omega, by rw [HS2.out]; go_num, HB2.out⟩
        case measure => simp [intOf]; omega
    · have HF : Hid (offN (rc.take i) = offN rc) := Lib.hid (by rw [List.take_of_length_le (by rw [HL3.out]; omega)])
      rw [HF.out]
      obtain ⟨x1, x2⟩ := HX.out w1 HB.out
      go_wp2_with fail
      go_loopw [7, 34] (fun x j wr => ∃ i : Nat, j = .int .i64 i ∧ i ≤ n' ∧ x = .int .i64 (passN ((es.take i).map (·.v)) (k : Int) : Nat) ∧ Below W1.heap.size W1 wr) (fun _ j _ => n' - (intOf j).toNat)
      case atStart => exact ⟨0, rfl, by omega, rfl, HB.out⟩
      case round =>
        clear HB x1 x2 HF
        obtain ⟨i2, rfl, hi2, rfl, hb⟩ := hrel
        obtain ⟨w2, rfl⟩ : ∃ w1 : World, w1 = wr := ⟨_, rfl⟩
        have HB := Lib.hid hb
        clear hb
        by_cases hlt2 : i2 < n'
        · have hil : i2 < es.length := by rw [HL2.out]; exact hlt2
          obtain ⟨b2, off2, eb2, _, hc⟩ := sdR.spots (HIW.out w2 HB.out).es.rd (show 0 < n' by omega)
          have hg : es[i2]? = some es[i2] := List.getElem?_eq_getElem hil
          obtain ⟨r, hr⟩ : ∃ r, r = es[i2] := ⟨_, rfl⟩
          rw [← hr] at hg
          have HS := Lib.hid (passN_take (k := (k : Int)) hg)
          have hm9 := List.mem_of_getElem? hg
          have ho9 := HE.out r hm9
          have HEk := Lib.hid (fun W (hW : Below W1.heap.size W1 W) => (HIW.out W hW).e r hm9)
          have hle : passN ((es.take i2).map (·.v)) (k : Int) ≤ 1024 * i2 := by
            have h1 := passN_le (l := es.take i2) (k := (k : Int)) (fun e he => HE.out e (List.mem_of_mem_take he))
            rw [List.length_take] at h1
            have h2 : min i2 es.length ≤ i2 := Nat.min_le_left _ _
            omega
          obtain ⟨z, hz⟩ : ∃ z, z = passN ((es.take i2).map (·.v)) (k : Int) := ⟨_, rfl⟩
          rw [← hz] at HS hle
          rw [← hz]
          subst eb2
          have m0 := hc i2 r hg 0 _ rfl
          have m1 := hc i2 r hg 1 _ rfl
          have m2 := hc i2 r hg 2 _ rfl
          have m3 := hc i2 r hg 3 _ rfl
          obtain ⟨⟨rp, rb, ro, rs⟩, ⟨A5, n5, c5⟩⟩ := r
          simp only [sdR, Nat.add_zero, Sl.val, ← Nat.add_assoc] at m0 m1 m2 m3 HS ho9
          have HL5 : Hid (ro.length = n5) := Lib.hid (HEk.out w2 HB.out).o.len
          have hn5 : n5 ≤ 1024 := by rw [← HL5.out]; exact ho9
          have HB2 : Hid (Below W1.heap.size W1 (w2.alloc (.cells #[.int .i64 rp, .int .i64 rb, .slice A5 n5 c5, .int .i64 rs] 50))) := Lib.hid (HB.out.alloc HB.out.size _)
          clear hc hr hg hm9 hz ho9
          go_wp2_with fail
          go_loopw [7, 41] (fun x j wr => ∃ i : Nat, j = .int .i64 i ∧ i ≤ n5 ∧ x = .int .i64 (z + passL (ro.take i) (k : Int) : Nat) ∧ Below W1.heap.size W1 wr) (fun _ j _ => n5 - (intOf j).toNat)
          case atStart => exact ⟨0, rfl, by omega, rfl, HB2.out⟩
          case round =>
            clear HB HB2 m0 m1 m2 m3
            obtain ⟨i3, rfl, hi3, rfl, hb⟩ := hrel
            obtain ⟨w3, rfl⟩ : ∃ w1 : World, w1 = wr := ⟨_, rfl⟩
            have HB := Lib.hid hb
            clear hb
            by_cases hlt3 : i3 < n5
            · have hil3 : i3 < ro.length := by rw [HL5.out]; exact hlt3
              obtain ⟨b3, off3, eb3, _, hc⟩ := mgR.spots (HEk.out w3 HB.out).o.rd (show 0 < n5 by omega)
              subst eb3
              have hg : ro[i3]? = some ro[i3] := List.getElem?_eq_getElem hil3
              obtain ⟨u, hu⟩ : ∃ u, u = ro[i3] := ⟨_, rfl⟩
              rw [← hu] at hg
              have HS3 := Lib.hid (passL_take (k := (k : Int)) hg)
              have hle3 : passL (ro.take i3) (k : Int) ≤ i3 := by
                have h1 := passL_le (ro.take i3) (k : Int)
                rw [List.length_take] at h1; omega
              obtain ⟨y, hy⟩ : ∃ y, y = passL (ro.take i3) (k : Int) := ⟨_, rfl⟩
              rw [← hy] at HS3 hle3
              rw [← hy]
              have m0 := hc i3 u hg 0 _ rfl
              have m1 := hc i3 u hg 1 _ rfl
              have m2 := hc i3 u hg 2 _ rfl
              have m3 := hc i3 u hg 3 _ rfl
              have m4 := hc i3 u hg 4 _ rfl
              obtain ⟨u0, u1, u2, u3, u4⟩ := u
              simp only [mgR, Nat.add_zero, ← Nat.add_assoc] at m0 m1 m2 m3 m4 HS3
              have HB2 : Hid (Below W1.heap.size W1 (w3.alloc (.cells #[.int .i64 u0, .int .i64 u1, .int .i64 u2, .int .i64 u3, .int .i64 u4] 30))) := Lib.hid (HB.out.alloc HB.out.size _)
              clear hc hg hu hy
              by_cases h8 : u0 = 2
              · by_cases h9 : u1 = (k : Int)
                · have HS4 := HS3.out
                  rw [if_pos ⟨h8, h9⟩] at HS4
                  have HS4 := Lib.hid HS4
                  subst h8; subst h9
                  clear HS3
                  go_wp2
                  go_roundw
                  case rel => exact ⟨i3 + 1, by go_num, by omega, by rw [HS4.out]; go_num, HB2.out⟩
                  case measure => simp [intOf]; omega
                · have HS4 := HS3.out
                  rw [if_neg (fun q => h9 q.2)] at HS4
                  have HS4 := Lib.hid HS4
                  have t1 : (u1 == (k : Int)) = false := by simpa using h9
                  subst h8
                  clear HS3
                  go_wp2
                  go_roundw
                  case rel => exact ⟨i3 + 1, by go_num, by omega, by rw [HS4.out, Nat.add_zero], HB2.out⟩
                  case measure => simp [intOf]; omega
              · have HS4 := HS3.out
                rw [if_neg (fun q => h8 q.1)] at HS4
                have HS4 := Lib.hid HS4
                have t1 : (u0 == 2) = false := by simpa using h8
                clear HS3
                go_wp2
                go_roundw
                case rel => exact ⟨i3 + 1, by go_num, by omega, by rw [HS4.out, Nat.add_zero], HB2.out⟩
                case measure => simp [intOf]; omega
            · have HF3 : Hid (z + passL (ro.take i3) (k : Int) = passN ((es.take (i2 + 1)).map (·.v)) (k : Int)) := Lib.hid (by rw [List.take_of_length_le (by rw [HL5.out]; omega), HS.out])
              rw [HF3.out]
              go_wp2
              go_roundw
              case rel => exact ⟨i2 + 1, by go_num, by omega, rfl, HB.out⟩
              case measure => simp [intOf]; omega
        · have HF2 : Hid (passN ((es.take i2).map (·.v)) (k : Int) = passN (es.map (·.v)) (k : Int)) := Lib.hid (by rw [List.take_of_length_le (by rw [HL2.out]; omega)])
          rw [HF2.out]
          go_wp2
          exact bodyPost_ret (v := .tuple #[.int .i64 (offN rc : Nat), .int .i64 (passN (es.map (·.v)) (k : Int) : Nat)]) (by simp [results, Try.f15, go_sem]) rfl ⟨rfl, HB1.out.trans (HB.out.mono HB1.out.size)⟩
end Go.Proofs.Ytiaafhcfeeekeaa.Pk

/- Two messages compared. -/
namespace Go.Proofs.Ytiaafhcfeeekeaa.Pk
open Go.RowKit
set_option linter.unusedVariables false
section
attribute [local go_sem] Oper.semAt_some
set_option maxHeartbeats 4000000 in
theorem eq_msg (a b c d e a' b' c' d' e' : Int) (w : World) : (Op.equalIn 10000 30 (.agg #[.int .i64 a, .int .i64 b, .int .i64 c, .int .i64 d, .int .i64 e]) (.agg #[.int .i64 a', .int .i64 b', .int .i64 c', .int .i64 d', .int .i64 e'])).run Try.prog w = .ok (decide ((⟨a, b, c, d, e⟩ : Mg) = ⟨a', b', c', d', e'⟩)) w := by
  have u3 := Try.underlying3
  have a3 := Try.isAgg3
  have z3 := Try.sizeOf3
  have hst : Try.prog.stoodInHeld 30 = false := by kernel_rfl
  rw [show (10000 : Nat) = 9999 + 1 from rfl, Op.equalIn]
  simp only [Sem.run_bind, run_underlying Try.underlying30, Result.andThen_ok]
  go_simp
  by_cases h1 : a = a' <;> by_cases h2 : b = b' <;> by_cases h3 : c = c' <;> by_cases h4 : d = d' <;> by_cases h5 : e = e' <;> simp [h1, h2, h3, h4, h5]
end
end Go.Proofs.Ytiaafhcfeeekeaa.Pk
