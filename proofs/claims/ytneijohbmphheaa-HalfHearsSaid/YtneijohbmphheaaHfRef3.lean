/- The document's Fits and Take of a side. -/
import Derived.Test.YtneijohbmphheaaHfRef2
namespace Go.Proofs.Ytneijohbmphheaa.Pk
open Go.RowKit
set_option linter.unusedVariables false
set_option maxRecDepth 100000 in
set_option maxHeartbeats 4000000 in
theorem reffits_any (h : Hf) (q : Int) (A : Option Addr) (n c : Nat) (w : World) (hk : InH w h A n c) (hq1 : -9223372036854775808 ≤ q) (hq2 : q ≤ 9223372036854775807) :
    Calls Try.prog 21 #[h.val (.slice A n c), .int .i64 q] w fun e w' => e = .returned (.bool (hfits h q)) ∧ Below w.heap.size w w' := by
  have HG := Lib.hid (fun w' (hb : Below w.heap.size w w') => refgood_any h A n c w' (hk.next hb))
  have HL : Hid (h.o.length = n) := Lib.hid hk.len
  have HR := Lib.hid hk.rd
  have hn := hk.few
  obtain ⟨i2, j2⟩ := hk.i.b
  obtain ⟨i3, j3⟩ := hk.i.s
  clear hk
  obtain ⟨r, hr⟩ : ∃ r, r = hfits h q := ⟨_, rfl⟩
  have HP := Lib.hid hr
  rw [← hr]
  clear hr
  obtain ⟨p, b, o, s⟩ := h
  unfold Hf.val at HG ⊢
  simp only at HG HL HR i2 j2 i3 j3 ⊢
  have HE1 : Hid (Blk (w.alloc (.cells #[.int .i64 p, .int .i64 b, .slice A n c, .int .i64 s] 24)) w.heap.size 24 #[.int .i64 p, .int .i64 b, .slice A n c, .int .i64 s]) := Lib.hid (Blk.new w _ _)
  have HB1 : Hid (Below w.heap.size w (w.alloc (.cells #[.int .i64 p, .int .i64 b, .slice A n c, .int .i64 s] 24))) := Lib.hid ((Below.refl _ _).alloc (Nat.le_refl _) _)
  go_enter Try.func21, Try.ntmps21
  go_wp2_with fail
  refine (HG.out _ HB1.out).mono ?_
  rintro e w2 ⟨rfl, hb2⟩
  have HB2 := Lib.hid (HB1.out.trans (hb2.mono HB1.out.size))
  have e2 := HE1.out.below hb2 HE1.out.lt
  have z3 : w2.cell? ⟨w.heap.size, 3, none⟩ = some (.int .i64 s) := e2.cell 3
  clear hb2 e2
  by_cases hbe : Hf.Be ⟨p, b, o, s⟩
  case neg =>
    obtain rfl : r = false := by rw [HP.out]; exact decide_eq_false (fun h => hbe h.1)
    rw [decide_eq_false hbe]
    clear hbe
    go_wp2
    go_ret
    exact ⟨rfl, HB2.out⟩
  case pos =>
  rw [decide_eq_true hbe]
  have HBe := Lib.hid hbe
  have g0 : 0 ≤ s ∧ s ≤ 1099511627776 := by
    obtain ⟨h1, h2, h3, h4, h5, h6, h7, h8⟩ := hbe
    exact ⟨h4, h5⟩
  obtain ⟨g0, g1⟩ := g0
  clear hbe
  by_cases hs : s < 1099511627776
  case neg =>
    have hc : decide (s < 1099511627776) = false := by simp; omega
    obtain rfl : r = false := by rw [HP.out]; exact decide_eq_false (fun h => hs h.2.1)
    go_wp2
    go_ret
    exact ⟨rfl, HB2.out⟩
  case pos =>
  have hc : decide (s < 1099511627776) = true := by simp; omega
  obtain ⟨s1, hs1⟩ : ∃ s1, s1 = s + 1 := ⟨_, rfl⟩
  have hw : IntKind.i64.wrap (s + 1) = s1 := by rw [IntWalk.i64_in _ (by omega), hs1]
  have HQ : Hid (r = decide (q = s1)) := Lib.hid (by
    rw [HP.out, hs1]
    refine decide_eq_decide.2 ⟨fun h => h.2.2, fun h => ⟨HBe.out, hs, h⟩⟩)
  clear hs1
  go_wp2
  go_ret
  exact ⟨by rw [HQ.out]; congr 1, HB2.out⟩
set_option maxRecDepth 100000 in
set_option maxHeartbeats 4000000 in
theorem reftook_any (h : Hf) (A : Option Addr) (n c : Nat) (w : World) (hk : InH w h A n c) :
    Calls Try.prog 19 #[h.val (.slice A n c)] w fun e w' => ∃ v, e = .returned (.tuple #[(htake h).1.val v, .int .i64 (htake h).2]) ∧ OutH w' w.heap.size (htake h).1 v ∧ Below w.heap.size w w' := by
  have HG := Lib.hid (fun w' (hb : Below w.heap.size w w') => refgood_any h A n c w' (hk.next hb))
  have HL : Hid (h.o.length = n) := Lib.hid hk.len
  have HR := Lib.hid hk.rd
  have hn := hk.few
  obtain ⟨i2, j2⟩ := hk.i.b
  obtain ⟨i3, j3⟩ := hk.i.s
  clear hk
  obtain ⟨r, hr⟩ : ∃ r, r = htake h := ⟨_, rfl⟩
  have HP := Lib.hid hr
  rw [← hr]
  clear hr
  obtain ⟨p, b, o, s⟩ := h
  unfold Hf.val at HG ⊢
  simp only at HG HL HR i2 j2 i3 j3 ⊢
  go_enter Try.func19, Try.ntmps19
  obtain ⟨x1, hx1⟩ : ∃ x, x = w.heap.size := ⟨_, rfl⟩
  obtain ⟨pr, hpr⟩ : ∃ x, x = x1 + 1 := ⟨_, rfl⟩
  obtain ⟨wb, hwb⟩ : ∃ wb, wb = w.alloc (.cells #[.int .i64 p, .int .i64 b, .slice A n c, .int .i64 s] 24) := ⟨_, rfl⟩
  obtain ⟨w1, hw1⟩ : ∃ w1, w1 = wb.alloc (.cells #[.int .i64 0, .int .i64 0, .slice none 0 0, .int .i64 0] 24) := ⟨_, rfl⟩
  have hsb : wb.heap.size = x1 + 1 := by rw [hwb, World.size_alloc, hx1]
  have hbb : Below w.heap.size w wb := hwb ▸ (Below.refl _ _).alloc (Nat.le_refl _) _
  have HB1 : Hid (Below w.heap.size w w1) := Lib.hid (hw1 ▸ hbb.alloc (by omega) _)
  have HE1 : Hid (Blk w1 x1 24 #[.int .i64 p, .int .i64 b, .slice A n c, .int .i64 s]) := Lib.hid (by rw [hw1, hwb, hx1]; exact (Blk.new w _ _).alloc _)
  have HK1 : Hid (Blk w1 pr 24 #[.int .i64 0, .int .i64 0, .slice none 0 0, .int .i64 0]) := Lib.hid (by rw [hw1, hpr, ← hsb]; exact Blk.new wb _ _)
  have HPr : Hid (w.heap.size + 1 = pr) := Lib.hid (by omega)
  have HNe : Hid (x1 ≠ pr) := Lib.hid (by omega)
  go_wp2_with fail
  rw [← hwb, ← hw1, ← hx1, ← hpr]
  clear hwb hw1 hx1 hpr hsb hbb wb
  refine (HG.out w1 HB1.out).mono ?_
  rintro e w2 ⟨rfl, hb2⟩
  have HB2 := Lib.hid (HB1.out.trans (hb2.mono HB1.out.size))
  have HE2 := Lib.hid (HE1.out.below hb2 HE1.out.lt)
  have HK2 := Lib.hid (HK1.out.below hb2 HK1.out.lt)
  clear hb2 HE1 HK1 HB1
  have e2 := HE2.out
  have z0 : w2.cell? ⟨x1, 0, none⟩ = some (.int .i64 p) := e2.cell 0
  have z1 : w2.cell? ⟨x1, 1, none⟩ = some (.int .i64 b) := e2.cell 1
  have z2 : w2.cell? ⟨x1, 2, none⟩ = some (.slice A n c) := e2.cell 2
  have z3 : w2.cell? ⟨x1, 3, none⟩ = some (.int .i64 s) := e2.cell 3
  clear e2
  by_cases hbe : Hf.Be ⟨p, b, o, s⟩
  case neg =>
    have HS : Hid (r = (Hf.zero, 24)) := Lib.hid (by rw [HP.out]; exact if_neg hbe)
    rw [decide_eq_false hbe]
    clear hbe
    have k2 := HK2.out
    have x0_ : w2.cell? ⟨pr, 0, none⟩ = some (.int .i64 0) := k2.cell 0
    have x1_ : w2.cell? ⟨pr, 1, none⟩ = some (.int .i64 0) := k2.cell 1
    have x2_ : w2.cell? ⟨pr, 2, none⟩ = some (.slice none 0 0) := k2.cell 2
    have x3_ : w2.cell? ⟨pr, 3, none⟩ = some (.int .i64 0) := k2.cell 3
    have f0_ : w2.frozen? ⟨pr, 0, none⟩ = false := k2.frozen 0
    have f1_ : w2.frozen? ⟨pr, 1, none⟩ = false := k2.frozen 1
    have f2_ : w2.frozen? ⟨pr, 2, none⟩ = false := k2.frozen 2
    have f3_ : w2.frozen? ⟨pr, 3, none⟩ = false := k2.frozen 3
    obtain ⟨w5, hw5, k5, hb5, ho5⟩ := edge_set k2 (.int .i64 0) (.int .i64 0) (.slice none 0 0) (.int .i64 0)
    have HB5 := Lib.hid (hb5 w.heap.size w (by have := HPr.out; omega) HB2.out)
    have HW5 := Lib.hid hw5
    have HO5 := Lib.hid ho5
    have y0_ : w5.cell? ⟨pr, 0, none⟩ = some (.int .i64 0) := k5.cell 0
    have y1_ : w5.cell? ⟨pr, 1, none⟩ = some (.int .i64 0) := k5.cell 1
    have y2_ : w5.cell? ⟨pr, 2, none⟩ = some (.slice none 0 0) := k5.cell 2
    have y3_ : w5.cell? ⟨pr, 3, none⟩ = some (.int .i64 0) := k5.cell 3
    clear k2 hw5 k5 hb5 ho5
    go_wp2
    rw [← HW5.out]
    refine bodyPost_ret (v := .tuple #[.agg #[.int .i64 0, .int .i64 0, .slice none 0 0, .int .i64 0], .int .i64 (24)]) (by simp [results, Try.f19, go_sem, y0_, y1_, y2_, y3_]) rfl ⟨.slice none 0 0, ?_, ?_, HB5.out⟩
    · rw [HS.out]; rfl
    · rw [HS.out]; exact OwnG.none_ _ _
  case pos =>
  rw [decide_eq_true hbe]
  have HBe := Lib.hid hbe
  have g0 : 0 ≤ s ∧ s ≤ 1099511627776 ∧ n ≤ 1024 := by
    obtain ⟨h1, h2, h3, h4, h5, h6, h7, h8⟩ := hbe
    simp only at h4 h5 h6
    rw [HL.out] at h6
    exact ⟨h4, h5, h6⟩
  obtain ⟨g0, g1, g2⟩ := g0
  clear hbe
  by_cases hs : s = 1099511627776
  case pos =>
    have hc : (s == 1099511627776) = true := by simpa using hs
    have HS : Hid (r = (Hf.zero, 23)) := Lib.hid (by rw [HP.out]; exact (if_pos HBe.out).trans (if_pos hs))
    clear hs
    have k2 := HK2.out
    have x0_ : w2.cell? ⟨pr, 0, none⟩ = some (.int .i64 0) := k2.cell 0
    have x1_ : w2.cell? ⟨pr, 1, none⟩ = some (.int .i64 0) := k2.cell 1
    have x2_ : w2.cell? ⟨pr, 2, none⟩ = some (.slice none 0 0) := k2.cell 2
    have x3_ : w2.cell? ⟨pr, 3, none⟩ = some (.int .i64 0) := k2.cell 3
    have f0_ : w2.frozen? ⟨pr, 0, none⟩ = false := k2.frozen 0
    have f1_ : w2.frozen? ⟨pr, 1, none⟩ = false := k2.frozen 1
    have f2_ : w2.frozen? ⟨pr, 2, none⟩ = false := k2.frozen 2
    have f3_ : w2.frozen? ⟨pr, 3, none⟩ = false := k2.frozen 3
    obtain ⟨w5, hw5, k5, hb5, ho5⟩ := edge_set k2 (.int .i64 0) (.int .i64 0) (.slice none 0 0) (.int .i64 0)
    have HB5 := Lib.hid (hb5 w.heap.size w (by have := HPr.out; omega) HB2.out)
    have HW5 := Lib.hid hw5
    have HO5 := Lib.hid ho5
    have y0_ : w5.cell? ⟨pr, 0, none⟩ = some (.int .i64 0) := k5.cell 0
    have y1_ : w5.cell? ⟨pr, 1, none⟩ = some (.int .i64 0) := k5.cell 1
    have y2_ : w5.cell? ⟨pr, 2, none⟩ = some (.slice none 0 0) := k5.cell 2
    have y3_ : w5.cell? ⟨pr, 3, none⟩ = some (.int .i64 0) := k5.cell 3
    clear k2 hw5 k5 hb5 ho5
    go_wp2
    rw [← HW5.out]
    refine bodyPost_ret (v := .tuple #[.agg #[.int .i64 0, .int .i64 0, .slice none 0 0, .int .i64 0], .int .i64 (23)]) (by simp [results, Try.f19, go_sem, y0_, y1_, y2_, y3_]) rfl ⟨.slice none 0 0, ?_, ?_, HB5.out⟩
    · rw [HS.out]; rfl
    · rw [HS.out]; exact OwnG.none_ _ _
  case neg =>
  have hc : (s == 1099511627776) = false := by simpa using hs
  obtain ⟨s1, hs1⟩ : ∃ s1, s1 = s + 1 := ⟨_, rfl⟩
  have hw : IntKind.i64.wrap (s + 1) = s1 := by rw [IntWalk.i64_in _ (by omega), hs1]
  have HS : Hid (r = (⟨p, b, o, s1⟩, 0)) := Lib.hid (by rw [HP.out, hs1]; exact (if_pos HBe.out).trans (if_neg hs))
  clear hs hs1
  have HR2 : Hid (Reads w2 w2.heap.size 5 A n (mgs o)) := Lib.hid ((HR.out.below HB2.out).more HB2.out.size)
  go_wp2_with fail
  go_region_held3 (fun w' => w'.cell? ⟨x1, 0, none⟩ = some (.int .i64 p) ∧ w'.cell? ⟨x1, 1, none⟩ = some (.int .i64 b) ∧ w'.cell? ⟨x1, 2, none⟩ = some (.slice A n c) ∧ w'.cell? ⟨x1, 3, none⟩ = some (.int .i64 s)) (first | exact ⟨z0, z1, z2, z3⟩ | exact Z8 | exact Z9 | exact ⟨(HE2.out.alloc _).cell 0, (HE2.out.alloc _).cell 1, (HE2.out.alloc _).cell 2, (HE2.out.alloc _).cell 3⟩ | go_keep) (first
    | go_must (refine stepM _ rfl (.tmp 16) (.tmp 18) rfl _ (.slice (some ⟨w2.heap.size, 0, none⟩) 0 0) [] rfl (by exact OwnG.fresh w2 _ (Nat.le_refl _)) w2.heap.size A c o n rfl (by exact HR2.out.alloc (Nat.le_refl _) _) (by simp; omega) (by simp) ?_; intro A8 n8 c8 w8 hown8 hg8 _; have HO8 : Hid (OwnG w8 w2.heap.size (.slice A8 n8 c8) o) := Lib.hid (hown8.mono_ (Nat.le_refl _)); have HB8 : Hid (Below w2.heap.size w2 w8) := Lib.hid ((below_drew_allocG w2 _).grown hg8 (by simp) (fun g e => by simp [Value.ownBlock] at e; omega)); have k8 := HE2.out.below HB8.out HE2.out.lt; have Z8 : w8.cell? ⟨x1, 0, none⟩ = some (.int .i64 p) ∧ w8.cell? ⟨x1, 1, none⟩ = some (.int .i64 b) ∧ w8.cell? ⟨x1, 2, none⟩ = some (.slice A n c) ∧ w8.cell? ⟨x1, 3, none⟩ = some (.int .i64 s) := ⟨k8.cell 0, k8.cell 1, k8.cell 2, k8.cell 3⟩; have q8 := (((((HE2.out.below HB8.out HE2.out.lt).far (p := ⟨pr, 0, none⟩) (show x1 ≠ pr from HNe.out) (.int .i64 p)).far (p := ⟨pr, 1, none⟩) (show x1 ≠ pr from HNe.out) (.int .i64 b)).far (p := ⟨pr, 2, none⟩) (show x1 ≠ pr from HNe.out) (.slice A8 n8 c8)).far (p := ⟨pr, 3, none⟩) (show x1 ≠ pr from HNe.out) (.int .i64 s1)); have Z9 := And.intro (q8.cell 0) (And.intro (q8.cell 1) (And.intro (q8.cell 2) (q8.cell 3))); have r8 := HK2.out.below HB8.out HK2.out.lt; have f0_ : w8.frozen? ⟨pr, 0, none⟩ = false := r8.frozen 0; have f1_ : w8.frozen? ⟨pr, 1, none⟩ = false := r8.frozen 1; have f2_ : w8.frozen? ⟨pr, 2, none⟩ = false := r8.frozen 2; have f3_ : w8.frozen? ⟨pr, 3, none⟩ = false := r8.frozen 3; have x0_ : w8.cell? ⟨pr, 0, none⟩ = some (.int .i64 0) := r8.cell 0; have x1_ : w8.cell? ⟨pr, 1, none⟩ = some (.int .i64 0) := r8.cell 1; have x2_ : w8.cell? ⟨pr, 2, none⟩ = some (.slice none 0 0) := r8.cell 2; have x3_ : w8.cell? ⟨pr, 3, none⟩ = some (.int .i64 0) := r8.cell 3; have HKr8 := Lib.hid r8; clear hown8 hg8 k8 q8 r8))
  all_goals
    obtain ⟨w5, hw5, k5, hb5, ho5⟩ := edge_set HKr8.out (.int .i64 p) (.int .i64 b) (.slice A8 n8 c8) (.int .i64 s1)
    have HB5 := Lib.hid (hb5 w.heap.size w (by have := HPr.out; omega) (HB2.out.trans (HB8.out.mono HB2.out.size)))
    have HW5 := Lib.hid hw5
    have HO5 : Hid (OwnG w5 w.heap.size (.slice A8 n8 c8) o) := Lib.hid (OwnG.mono_ (l := o) (ho5 _ _ _ HO8.out (fun e => by have := ownG_base HO8.out _ e; have := HK2.out.lt; omega)) HB2.out.size)
    have y0_ : w5.cell? ⟨pr, 0, none⟩ = some (.int .i64 p) := k5.cell 0
    have y1_ : w5.cell? ⟨pr, 1, none⟩ = some (.int .i64 b) := k5.cell 1
    have y2_ : w5.cell? ⟨pr, 2, none⟩ = some (.slice A8 n8 c8) := k5.cell 2
    have y3_ : w5.cell? ⟨pr, 3, none⟩ = some (.int .i64 s1) := k5.cell 3
    clear hw5 k5 hb5 ho5
    go_wp2
    rw [← HW5.out]
    refine bodyPost_ret (v := .tuple #[.agg #[.int .i64 p, .int .i64 b, .slice A8 n8 c8, .int .i64 s1], .int .i64 0]) (by simp [results, Try.f19, go_sem, y0_, y1_, y2_, y3_]) rfl ⟨.slice A8 n8 c8, ?_, ?_, HB5.out⟩
    · rw [HS.out]
    · rw [HS.out]; exact HO5.out
end Go.Proofs.Ytneijohbmphheaa.Pk
