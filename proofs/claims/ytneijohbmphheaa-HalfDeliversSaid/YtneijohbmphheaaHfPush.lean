/- The landed Push of package half. -/
import Derived.Test.YtneijohbmphheaaHfGood
import Derived.Test.YtneijohbmphheaaHfRef2
namespace Go.Proofs.Ytneijohbmphheaa.Pk
open Go.RowKit
set_option linter.unusedVariables false
set_option maxRecDepth 100000 in
set_option maxHeartbeats 4000000 in
theorem pushH : PushH := by
  intro h m A n c w hin hm
  obtain ⟨r, hr⟩ : ∃ r, r = hpush h m := ⟨_, rfl⟩
  have HP := Lib.hid hr
  rw [← hr]
  clear hr
  obtain ⟨p, b, o, s⟩ := h
  obtain ⟨mk, mo, mn, mu, mv⟩ := m
  have HV := Lib.hid (fun w' => validC _ w' hm)
  unfold Mg.val at HV ⊢
  simp only at HV ⊢
  clear hm
  have HL : Hid (o.length = n) := Lib.hid hin.len
  have HIn := Lib.hid hin
  have HG := Lib.hid (fun w' (hb : Below w.heap.size w w') => goodH _ A n c w' (hin.next hb))
  have HR := Lib.hid hin.rd
  have hfew := hin.few
  have hnc := hin.cap
  obtain ⟨⟨ip, jp⟩, ⟨ib, jb⟩, ⟨is_, js⟩, -⟩ := hin.i
  unfold Hf.val at HG ⊢
  simp only at HG HR ip jp ib jb is_ js ⊢
  clear hin
  go_enter Try.func11, Try.ntmps11
  obtain ⟨x1, hx1⟩ : ∃ x, x = w.heap.size := ⟨_, rfl⟩
  obtain ⟨x2, hx2⟩ : ∃ x, x = x1 + 1 := ⟨_, rfl⟩
  obtain ⟨pr, hpr⟩ : ∃ x, x = x2 + 1 := ⟨_, rfl⟩
  obtain ⟨wa, hwa⟩ : ∃ wa, wa = w.alloc (.cells #[.int .i64 p, .int .i64 b, .slice A n c, .int .i64 s] 24) := ⟨_, rfl⟩
  obtain ⟨wb, hwb⟩ : ∃ wb, wb = wa.alloc (.cells #[.int .i64 mk, .int .i64 mo, .int .i64 mn, .int .i64 mu, .int .i64 mv] 26) := ⟨_, rfl⟩
  obtain ⟨w1, hw1⟩ : ∃ w1, w1 = wb.alloc (.cells #[.int .i64 0, .int .i64 0, .slice none 0 0, .int .i64 0] 24) := ⟨_, rfl⟩
  have hsa : wa.heap.size = x1 + 1 := by rw [hwa, World.size_alloc, hx1]
  have hsb : wb.heap.size = x2 + 1 := by rw [hwb, World.size_alloc, hsa, hx2]
  have hba : Below w.heap.size w wa := hwa ▸ (Below.refl _ _).alloc (Nat.le_refl _) _
  have hbb : Below w.heap.size w wb := hwb ▸ hba.alloc (by omega) _
  have HB1 : Hid (Below w.heap.size w w1) := Lib.hid (hw1 ▸ hbb.alloc (by omega) _)
  have HE1 : Hid (Blk w1 x1 24 #[.int .i64 p, .int .i64 b, .slice A n c, .int .i64 s]) := Lib.hid (by rw [hw1, hwb, hwa, hx1]; exact ((Blk.new w _ _).alloc _).alloc _)
  have HM1 : Hid (Blk w1 x2 26 #[.int .i64 mk, .int .i64 mo, .int .i64 mn, .int .i64 mu, .int .i64 mv]) := Lib.hid (by rw [hw1, hwb, hx2, ← hsa]; exact (Blk.new wa _ _).alloc _)
  have HK1 : Hid (Blk w1 pr 24 #[.int .i64 0, .int .i64 0, .slice none 0 0, .int .i64 0]) := Lib.hid (by rw [hw1, hpr, ← hsb]; exact Blk.new wb _ _)
  have HPr : Hid (w.heap.size + 2 = pr) := Lib.hid (by omega)
  have HX1 : Hid (w.heap.size = x1) := Lib.hid (by omega)
  have HNe : Hid (x1 ≠ pr ∧ x2 ≠ pr) := Lib.hid (by omega)
  go_wp2_with fail
  rw [← hwa, ← hwb, ← hw1, ← hx1, ← hx2, ← hpr]
  clear hwa hwb hw1 hx1 hx2 hpr hsa hsb hba hbb wa wb
  refine (HG.out w1 HB1.out).mono ?_
  rintro e w2 ⟨rfl, hb2⟩
  have HB2 := Lib.hid (HB1.out.trans (hb2.mono HB1.out.size))
  have HE2 := Lib.hid (HE1.out.below hb2 HE1.out.lt)
  have HM2 := Lib.hid (HM1.out.below hb2 HM1.out.lt)
  have HK2 := Lib.hid (HK1.out.below hb2 HK1.out.lt)
  clear hb2 HE1 HK1 HB1
  clear HM1
  by_cases hbe : Hf.Be ⟨p, b, o, s⟩
  case neg =>
    have HS : Hid (r = (Hf.zero, 24)) := Lib.hid (by rw [HP.out]; exact if_neg hbe)
    rw [decide_eq_false hbe]
    clear hbe
    have k2 := HK2.out
    have x0_ : w2.cell? ⟨pr, 0, none⟩ = some (.int .i64 0) := k2.cell 0
    have x1_ : w2.cell? ⟨pr, 1, none⟩ = some (.int .i64 0) := k2.cell 1
    have x2_ : w2.cell? ⟨pr, 2, none⟩ = some (.slice none 0 0) := k2.cell 2
    have x3_ : w2.cell? ⟨pr, 3, none⟩ = some (.int .i64 0) := k2.cell 3
    have f0_ : w2.frozen? ⟨pr, 0, none⟩ = false := k2.frozen 0
    have f1_ : w2.frozen? ⟨pr, 1, none⟩ = false := k2.frozen 1
    have f2_ : w2.frozen? ⟨pr, 2, none⟩ = false := k2.frozen 2
    have f3_ : w2.frozen? ⟨pr, 3, none⟩ = false := k2.frozen 3
    obtain ⟨w5, hw5, k5, hb5, ho5⟩ := edge_set k2 (.int .i64 0) (.int .i64 0) (.slice none 0 0) (.int .i64 0)
    have HB5 := Lib.hid (hb5 w.heap.size w (by have := HPr.out; omega) HB2.out)
    have HW5 := Lib.hid hw5
    have y0_ : w5.cell? ⟨pr, 0, none⟩ = some (.int .i64 0) := k5.cell 0
    have y1_ : w5.cell? ⟨pr, 1, none⟩ = some (.int .i64 0) := k5.cell 1
    have y2_ : w5.cell? ⟨pr, 2, none⟩ = some (.slice none 0 0) := k5.cell 2
    have y3_ : w5.cell? ⟨pr, 3, none⟩ = some (.int .i64 0) := k5.cell 3
    clear k2 hw5 k5 hb5 ho5
    go_wp2
    rw [← HW5.out]
    refine bodyPost_ret (v := .tuple #[.agg #[.int .i64 0, .int .i64 0, .slice none 0 0, .int .i64 0], .int .i64 (24)]) (by simp [results, Try.f11, go_sem, y0_, y1_, y2_, y3_]) rfl ⟨.slice none 0 0, ?_, ?_, HB5.out⟩
    · rw [HS.out]; rfl
    · rw [HS.out]; exact OwnG.none_ _ _
  case pos =>
  have HBe := Lib.hid hbe
  rw [decide_eq_true hbe]
  clear hbe
  have m0 : w2.cell? ⟨x2, 0, none⟩ = some (.int .i64 mk) := HM2.out.cell 0
  have m1 : w2.cell? ⟨x2, 1, none⟩ = some (.int .i64 mo) := HM2.out.cell 1
  have m2 : w2.cell? ⟨x2, 2, none⟩ = some (.int .i64 mn) := HM2.out.cell 2
  have m3 : w2.cell? ⟨x2, 3, none⟩ = some (.int .i64 mu) := HM2.out.cell 3
  have m4 : w2.cell? ⟨x2, 4, none⟩ = some (.int .i64 mv) := HM2.out.cell 4
  go_wp2_with fail
  refine (HV.out w2).mono ?_
  rintro e w3 ⟨rfl, hb3⟩
  have HB3 := Lib.hid (HB2.out.trans (hb3.mono HB2.out.size))
  have HE3 := Lib.hid (HE2.out.below hb3 HE2.out.lt)
  have HM3 := Lib.hid (HM2.out.below hb3 HM2.out.lt)
  have HK3 := Lib.hid (HK2.out.below hb3 HK2.out.lt)
  clear hb3 HE2 HM2 HK2 HB2 m0 m1 m2 m3 m4
  by_cases hmb : Mg.Be ⟨mk, mo, mn, mu, mv⟩
  case neg =>
    have HS : Hid (r = (Hf.zero, 1)) := Lib.hid (by rw [HP.out]; exact (if_pos HBe.out).trans (if_neg hmb))
    rw [decide_eq_false hmb]
    clear hmb
    have k2 := HK3.out
    have x0_ : w3.cell? ⟨pr, 0, none⟩ = some (.int .i64 0) := k2.cell 0
    have x1_ : w3.cell? ⟨pr, 1, none⟩ = some (.int .i64 0) := k2.cell 1
    have x2_ : w3.cell? ⟨pr, 2, none⟩ = some (.slice none 0 0) := k2.cell 2
    have x3_ : w3.cell? ⟨pr, 3, none⟩ = some (.int .i64 0) := k2.cell 3
    have f0_ : w3.frozen? ⟨pr, 0, none⟩ = false := k2.frozen 0
    have f1_ : w3.frozen? ⟨pr, 1, none⟩ = false := k2.frozen 1
    have f2_ : w3.frozen? ⟨pr, 2, none⟩ = false := k2.frozen 2
    have f3_ : w3.frozen? ⟨pr, 3, none⟩ = false := k2.frozen 3
    obtain ⟨w5, hw5, k5, hb5, ho5⟩ := edge_set k2 (.int .i64 0) (.int .i64 0) (.slice none 0 0) (.int .i64 0)
    have HB5 := Lib.hid (hb5 w.heap.size w (by have := HPr.out; omega) HB3.out)
    have HW5 := Lib.hid hw5
    have y0_ : w5.cell? ⟨pr, 0, none⟩ = some (.int .i64 0) := k5.cell 0
    have y1_ : w5.cell? ⟨pr, 1, none⟩ = some (.int .i64 0) := k5.cell 1
    have y2_ : w5.cell? ⟨pr, 2, none⟩ = some (.slice none 0 0) := k5.cell 2
    have y3_ : w5.cell? ⟨pr, 3, none⟩ = some (.int .i64 0) := k5.cell 3
    clear k2 hw5 k5 hb5 ho5
    go_wp2
    rw [← HW5.out]
    refine bodyPost_ret (v := .tuple #[.agg #[.int .i64 0, .int .i64 0, .slice none 0 0, .int .i64 0], .int .i64 (1)]) (by simp [results, Try.f11, go_sem, y0_, y1_, y2_, y3_]) rfl ⟨.slice none 0 0, ?_, ?_, HB5.out⟩
    · rw [HS.out]; rfl
    · rw [HS.out]; exact OwnG.none_ _ _
  case pos =>
  have HMb := Lib.hid hmb
  rw [decide_eq_true hmb]
  clear hmb
  have hb9 : 0 ≤ b ∧ b ≤ 1099511627776 := by
    obtain ⟨g1, g2, g3, g4, g5, g6, g7, g8⟩ := HBe.out
    simp only [HL.out] at g3 g7
    omega
  have HRm := Lib.hid (fun w => room_any (p := p) (s := s) A n c w hb9 hfew hnc)
  obtain ⟨M, hM⟩ : ∃ M, M = min 1024 (1099511627776 - b) - (n : Int) := ⟨_, rfl⟩
  rw [← hM] at HRm
  have e0 : w3.cell? ⟨x1, 0, none⟩ = some (.int .i64 p) := HE3.out.cell 0
  have e1 : w3.cell? ⟨x1, 1, none⟩ = some (.int .i64 b) := HE3.out.cell 1
  have e2 : w3.cell? ⟨x1, 2, none⟩ = some (.slice A n c) := HE3.out.cell 2
  have e3 : w3.cell? ⟨x1, 3, none⟩ = some (.int .i64 s) := HE3.out.cell 3
  have HMd := Lib.hid hM
  clear hM
  go_wp2_with fail
  refine (HRm.out w3).mono ?_
  rintro e w4 ⟨rfl, hb4⟩
  have HB4 := Lib.hid (HB3.out.trans (hb4.mono HB3.out.size))
  have HE4 := Lib.hid (HE3.out.below hb4 HE3.out.lt)
  have HM4 := Lib.hid (HM3.out.below hb4 HM3.out.lt)
  have HK4 := Lib.hid (HK3.out.below hb4 HK3.out.lt)
  clear hb4 HE3 HM3 HK3 HB3 e0 e1 e2 e3
  by_cases hfu : Hf.Full ⟨p, b, o, s⟩
  case pos =>
    have hm0 : (M == 0) = true := by
      have g := HBe.out
      obtain ⟨g1, g2, g3, g4, g5, g6, g7, g8⟩ := g
      have g9 := hfu
      unfold Hf.Full at g9
      simp only [HL.out] at g6 g7 g9
      have := HMd.out
      simp
      omega
    have HS : Hid (r = (Hf.zero, 23)) := Lib.hid (by rw [HP.out]; exact (if_pos HBe.out).trans ((if_pos HMb.out).trans (if_pos hfu)))
    clear hfu
    have k2 := HK4.out
    have x0_ : w4.cell? ⟨pr, 0, none⟩ = some (.int .i64 0) := k2.cell 0
    have x1_ : w4.cell? ⟨pr, 1, none⟩ = some (.int .i64 0) := k2.cell 1
    have x2_ : w4.cell? ⟨pr, 2, none⟩ = some (.slice none 0 0) := k2.cell 2
    have x3_ : w4.cell? ⟨pr, 3, none⟩ = some (.int .i64 0) := k2.cell 3
    have f0_ : w4.frozen? ⟨pr, 0, none⟩ = false := k2.frozen 0
    have f1_ : w4.frozen? ⟨pr, 1, none⟩ = false := k2.frozen 1
    have f2_ : w4.frozen? ⟨pr, 2, none⟩ = false := k2.frozen 2
    have f3_ : w4.frozen? ⟨pr, 3, none⟩ = false := k2.frozen 3
    obtain ⟨w5, hw5, k5, hb5, ho5⟩ := edge_set k2 (.int .i64 0) (.int .i64 0) (.slice none 0 0) (.int .i64 0)
    have HB5 := Lib.hid (hb5 w.heap.size w (by have := HPr.out; omega) HB4.out)
    have HW5 := Lib.hid hw5
    have y0_ : w5.cell? ⟨pr, 0, none⟩ = some (.int .i64 0) := k5.cell 0
    have y1_ : w5.cell? ⟨pr, 1, none⟩ = some (.int .i64 0) := k5.cell 1
    have y2_ : w5.cell? ⟨pr, 2, none⟩ = some (.slice none 0 0) := k5.cell 2
    have y3_ : w5.cell? ⟨pr, 3, none⟩ = some (.int .i64 0) := k5.cell 3
    clear k2 hw5 k5 hb5 ho5
    go_wp2
    rw [← HW5.out]
    refine bodyPost_ret (v := .tuple #[.agg #[.int .i64 0, .int .i64 0, .slice none 0 0, .int .i64 0], .int .i64 (23)]) (by simp [results, Try.f11, go_sem, y0_, y1_, y2_, y3_]) rfl ⟨.slice none 0 0, ?_, ?_, HB5.out⟩
    · rw [HS.out]; rfl
    · rw [HS.out]; exact OwnG.none_ _ _
  case neg =>
  have hm0 : (M == 0) = false := by
    have g := HBe.out
    obtain ⟨g1, g2, g3, g4, g5, g6, g7, g8⟩ := g
    have g9 := hfu
    unfold Hf.Full at g9
    simp only [HL.out] at g6 g7 g9
    have := HMd.out
    simp
    omega
  have hn : n ≤ 1024 := by
    have g := HBe.out.2.2.2.2.2.1
    simpa only [HL.out] using g
  have HS : Hid (r = (⟨p, b, o ++ [⟨mk, mo, mn, mu, mv⟩], s⟩, 0)) := Lib.hid (by rw [HP.out]; exact (if_pos HBe.out).trans ((if_pos HMb.out).trans (if_neg hfu)))
  clear hfu
  have e2 : w4.cell? ⟨x1, 2, none⟩ = some (.slice A n c) := HE4.out.cell 2
  have m0 : w4.cell? ⟨x2, 0, none⟩ = some (.int .i64 mk) := HM4.out.cell 0
  have m1 : w4.cell? ⟨x2, 1, none⟩ = some (.int .i64 mo) := HM4.out.cell 1
  have m2 : w4.cell? ⟨x2, 2, none⟩ = some (.int .i64 mn) := HM4.out.cell 2
  have m3 : w4.cell? ⟨x2, 3, none⟩ = some (.int .i64 mu) := HM4.out.cell 3
  have m4 : w4.cell? ⟨x2, 4, none⟩ = some (.int .i64 mv) := HM4.out.cell 4
  go_wp2_with fail
  refine (apart_any A n c o (some ⟨w4.heap.size, 0, none⟩) 1 1 [⟨mk, mo, mn, mu, mv⟩] _ (((HR.out.below HB4.out).alloc HB4.out.size _).more (by have := HB4.out.size; simp; omega)) (by have := reads_msg w4 26 ⟨mk, mo, mn, mu, mv⟩; exact this.more (by simp)) hnc (by omega) (by rw [HL.out]; simp; omega)).mono ?_
  rintro e w5 ⟨v5, rfl, ho5, hb5⟩
  obtain ⟨A5, n5, c5, rfl⟩ := ownG_slice ho5
  have hb45 : Below w4.heap.size w4 w5 := ((Below.refl _ w4).alloc (Nat.le_refl _) _).trans (hb5.mono (by simp))
  have HO5 := Lib.hid (ho5.lower (B' := w4.heap.size) (by simp))
  have HB5 := Lib.hid (HB4.out.trans (hb45.mono HB4.out.size))
  have HE5 := Lib.hid (HE4.out.below hb45 HE4.out.lt)
  have HK5 := Lib.hid (HK4.out.below hb45 HK4.out.lt)
  have HXl := Lib.hid HE4.out.lt
  have HKl := Lib.hid HK4.out.lt
  clear hb5 hb45 ho5 e2 m0 m1 m2 m3 m4 HE4 HM4 HK4
  have hx2 : w5.cell? ⟨x1, 2, none⟩ = some (.slice A n c) := HE5.out.cell 2
  have hf2 : w5.frozen? ⟨x1, 2, none⟩ = false := HE5.out.frozen 2
  have HE6 : Hid (Blk (w5.setCell ⟨x1, 2, none⟩ (.slice A5 n5 c5)) x1 24 #[.int .i64 p, .int .i64 b, .slice A5 n5 c5, .int .i64 s]) := Lib.hid (by have := HE5.out.set_ 2 (.slice A5 n5 c5); simpa using this)
  have HK6 : Hid (Blk (w5.setCell ⟨x1, 2, none⟩ (.slice A5 n5 c5)) pr 24 #[.int .i64 0, .int .i64 0, .slice none 0 0, .int .i64 0]) := Lib.hid (HK5.out.far (p := ⟨x1, 2, none⟩) (fun e => HNe.out.1 e.symm) _)
  have HB6 : Hid (Below w.heap.size w (w5.setCell ⟨x1, 2, none⟩ (.slice A5 n5 c5))) := Lib.hid (below_setG HB5.out (by have := HX1.out; omega) 2 _)
  have HO6 : Hid (OwnG (w5.setCell ⟨x1, 2, none⟩ (.slice A5 n5 c5)) w4.heap.size (.slice A5 n5 c5) (o ++ [⟨mk, mo, mn, mu, mv⟩])) := Lib.hid (HO5.out.stay (fun g e => Below.heap_setCell w5 ⟨x1, 2, none⟩ _ g (by have := ownG_base HO5.out g e; have := HXl.out; simp; omega)))
  have z0 : (w5.setCell ⟨x1, 2, none⟩ (.slice A5 n5 c5)).cell? ⟨x1, 0, none⟩ = some (.int .i64 p) := HE6.out.cell 0
  have z1 : (w5.setCell ⟨x1, 2, none⟩ (.slice A5 n5 c5)).cell? ⟨x1, 1, none⟩ = some (.int .i64 b) := HE6.out.cell 1
  have z2 : (w5.setCell ⟨x1, 2, none⟩ (.slice A5 n5 c5)).cell? ⟨x1, 2, none⟩ = some (.slice A5 n5 c5) := HE6.out.cell 2
  have z3 : (w5.setCell ⟨x1, 2, none⟩ (.slice A5 n5 c5)).cell? ⟨x1, 3, none⟩ = some (.int .i64 s) := HE6.out.cell 3
  have x0_ : (w5.setCell ⟨x1, 2, none⟩ (.slice A5 n5 c5)).cell? ⟨pr, 0, none⟩ = some (.int .i64 0) := HK6.out.cell 0
  have f0_ : (w5.setCell ⟨x1, 2, none⟩ (.slice A5 n5 c5)).frozen? ⟨pr, 0, none⟩ = false := HK6.out.frozen 0
  have x1_ : (w5.setCell ⟨x1, 2, none⟩ (.slice A5 n5 c5)).cell? ⟨pr, 1, none⟩ = some (.int .i64 0) := HK6.out.cell 1
  have f1_ : (w5.setCell ⟨x1, 2, none⟩ (.slice A5 n5 c5)).frozen? ⟨pr, 1, none⟩ = false := HK6.out.frozen 1
  have x2_ : (w5.setCell ⟨x1, 2, none⟩ (.slice A5 n5 c5)).cell? ⟨pr, 2, none⟩ = some (.slice none 0 0) := HK6.out.cell 2
  have f2_ : (w5.setCell ⟨x1, 2, none⟩ (.slice A5 n5 c5)).frozen? ⟨pr, 2, none⟩ = false := HK6.out.frozen 2
  have x3_ : (w5.setCell ⟨x1, 2, none⟩ (.slice A5 n5 c5)).cell? ⟨pr, 3, none⟩ = some (.int .i64 0) := HK6.out.cell 3
  have f3_ : (w5.setCell ⟨x1, 2, none⟩ (.slice A5 n5 c5)).frozen? ⟨pr, 3, none⟩ = false := HK6.out.frozen 3
  obtain ⟨w7, hw7, k7, hb7, ho7⟩ := edge_set HK6.out (.int .i64 p) (.int .i64 b) (.slice A5 n5 c5) (.int .i64 s)
  have HB7 := Lib.hid (hb7 w.heap.size w (by have := HPr.out; omega) HB6.out)
  have HW7 := Lib.hid hw7
  have HO7 : Hid (OwnG w7 w.heap.size (.slice A5 n5 c5) (o ++ [⟨mk, mo, mn, mu, mv⟩])) := Lib.hid (OwnG.lower (ho7 _ _ _ HO6.out (fun e => by have := ownG_base HO6.out _ e; have := HKl.out; omega)) HB4.out.size)
  have y0_ : w7.cell? ⟨pr, 0, none⟩ = some (.int .i64 p) := k7.cell 0
  have y1_ : w7.cell? ⟨pr, 1, none⟩ = some (.int .i64 b) := k7.cell 1
  have y2_ : w7.cell? ⟨pr, 2, none⟩ = some (.slice A5 n5 c5) := k7.cell 2
  have y3_ : w7.cell? ⟨pr, 3, none⟩ = some (.int .i64 s) := k7.cell 3
  clear hw7 k7 hb7 ho7
  go_wp2
  rw [← HW7.out]
  refine bodyPost_ret (v := .tuple #[.agg #[.int .i64 p, .int .i64 b, .slice A5 n5 c5, .int .i64 s], .int .i64 0]) (by simp [results, Try.f11, go_sem, y0_, y1_, y2_, y3_]) rfl ⟨.slice A5 n5 c5, ?_, ?_, HB7.out⟩
  · rw [HS.out]
  · rw [HS.out]; exact HO7.out
end Go.Proofs.Ytneijohbmphheaa.Pk
