/- The document's Push, Heard, Fits, Take of a side. -/
import Derived.Test.YtneijohbmphheaaHfRef
import Derived.Test.YtneijohbmphheaaMgApp
import Derived.BigRegion
import Derived.Deep.RegionHeld3
import Derived.Deep.DeepMust
namespace Go.Proofs.Ytneijohbmphheaa.Pk
open Go.RowKit
set_option linter.unusedVariables false
/-- A side laid into its box. -/
theorem edge_set {V : World} {x : Nat} {t : TypeId} {a0 a1 a2 a3 : Value} (h : Blk V x t #[a0, a1, a2, a3]) (u0 u1 u2 u3 : Value) : ∃ V5, V5 = ((((V.setCell ⟨x, 0, none⟩ u0).setCell ⟨x, 1, none⟩ u1).setCell ⟨x, 2, none⟩ u2).setCell ⟨x, 3, none⟩ u3) ∧
    Blk V5 x t #[u0, u1, u2, u3] ∧ (∀ B w, B ≤ x → Below B w V → Below B w V5) ∧ (∀ B v l, OwnG V B v l → v.ownBlock ≠ some x → OwnG V5 B v l) := by
  have h0 : Blk (V.setCell ⟨x, 0, none⟩ u0) x t #[u0, a1, a2, a3] := by have := h.set_ 0 u0; simpa using this
  have h1 : Blk ((V.setCell ⟨x, 0, none⟩ u0).setCell ⟨x, 1, none⟩ u1) x t #[u0, u1, a2, a3] := by have := h0.set_ 1 u1; simpa using this
  have h2 : Blk (((V.setCell ⟨x, 0, none⟩ u0).setCell ⟨x, 1, none⟩ u1).setCell ⟨x, 2, none⟩ u2) x t #[u0, u1, u2, a3] := by have := h1.set_ 2 u2; simpa using this
  have h3 : Blk ((((V.setCell ⟨x, 0, none⟩ u0).setCell ⟨x, 1, none⟩ u1).setCell ⟨x, 2, none⟩ u2).setCell ⟨x, 3, none⟩ u3) x t #[u0, u1, u2, u3] := by have := h2.set_ 3 u3; simpa using this
  refine ⟨_, rfl, h3, fun B w hx hb => below_setG (below_setG (below_setG (below_setG hb hx 0 u0) hx 1 u1) hx 2 u2) hx 3 u3, fun B v l ho hv => ho.stay (fun g e => ?_)⟩
  have hg : ∀ (U : World) (i : Nat) (u : Value), (U.setCell ⟨x, i, none⟩ u).heap[g]? = U.heap[g]? := fun U i u => Below.heap_setCell U ⟨x, i, none⟩ u g (fun e2 => hv (by simp at e2; rw [e, e2]))
  rw [hg, hg, hg, hg]
theorem OwnG.mono_ {w : World} {B B' : Nat} {v : Value} {l : List Mg} (h : OwnG w B v ([] ++ l)) (hB : B' ≤ B) : OwnG w B' v l := by
  obtain ⟨h1, h2⟩ := h
  refine ⟨h1, ?_⟩
  rcases h2 with h2 | ⟨g, cap, cur, rfl, hg, hr⟩
  · exact .inl h2
  · exact .inr ⟨g, cap, cur, rfl, Nat.le_trans hB hg, hr⟩
theorem edge_cells {V : World} {x y : Nat} {t t' : TypeId} {a0 a1 a2 a3 b0 b1 b2 b3 b4 : Value} (h : Blk V x t #[a0, a1, a2, a3]) (h' : Blk V y t' #[b0, b1, b2, b3, b4]) :
    V.cell? ⟨x, 0, none⟩ = some a0 ∧ V.cell? ⟨x, 1, none⟩ = some a1 ∧ V.cell? ⟨x, 2, none⟩ = some a2 ∧ V.cell? ⟨x, 3, none⟩ = some a3 ∧ V.cell? ⟨y, 0, none⟩ = some b0 ∧ V.cell? ⟨y, 1, none⟩ = some b1 ∧ V.cell? ⟨y, 2, none⟩ = some b2 ∧ V.cell? ⟨y, 3, none⟩ = some b3 ∧ V.cell? ⟨y, 4, none⟩ = some b4 :=
  ⟨h.cell 0, h.cell 1, h.cell 2, h.cell 3, h'.cell 0, h'.cell 1, h'.cell 2, h'.cell 3, h'.cell 4⟩
set_option maxRecDepth 100000 in
set_option maxHeartbeats 4000000 in
theorem refpush_any (h : Hf) (m : Mg) (A : Option Addr) (n c : Nat) (w : World) (hk : InH w h A n c) (hm : m.I) :
    Calls Try.prog 12 #[h.val (.slice A n c), m.val] w fun e w' => ∃ v, e = .returned (.tuple #[(hpush h m).1.val v, .int .i64 (hpush h m).2]) ∧ OutH w' w.heap.size (hpush h m).1 v ∧ Below w.heap.size w w' := by
  have HG := Lib.hid (fun w' (hb : Below w.heap.size w w') => refgood_any h A n c w' (hk.next hb))
  have HV := Lib.hid (fun w => refvalid_any m w hm)
  have HL : Hid (h.o.length = n) := Lib.hid hk.len
  have HR := Lib.hid hk.rd
  have hn := hk.few
  obtain ⟨i2, j2⟩ := hk.i.b
  have hcap := hk.cap
  clear hk hm
  obtain ⟨r, hr⟩ : ∃ r, r = hpush h m := ⟨_, rfl⟩
  have HP := Lib.hid hr
  rw [← hr]
  clear hr
  obtain ⟨p, b, o, s⟩ := h
  obtain ⟨mk, mo, mn, mu, mv⟩ := m
  unfold Hf.val at HG ⊢
  unfold Mg.val at HV ⊢
  simp only at HG HV HL HR i2 j2 ⊢
  go_enter Try.func12, Try.ntmps12
  obtain ⟨x1, hx1⟩ : ∃ x, x = w.heap.size := ⟨_, rfl⟩
  obtain ⟨x2, hx2⟩ : ∃ x, x = x1 + 1 := ⟨_, rfl⟩
  obtain ⟨pr, hpr⟩ : ∃ x, x = x2 + 1 := ⟨_, rfl⟩
  obtain ⟨wa, hwa⟩ : ∃ wa, wa = w.alloc (.cells #[.int .i64 p, .int .i64 b, .slice A n c, .int .i64 s] 24) := ⟨_, rfl⟩
  obtain ⟨wb, hwb⟩ : ∃ wb, wb = wa.alloc (.cells #[.int .i64 mk, .int .i64 mo, .int .i64 mn, .int .i64 mu, .int .i64 mv] 26) := ⟨_, rfl⟩
  obtain ⟨w1, hw1⟩ : ∃ w1, w1 = wb.alloc (.cells #[.int .i64 0, .int .i64 0, .slice none 0 0, .int .i64 0] 24) := ⟨_, rfl⟩
  have hsa : wa.heap.size = x1 + 1 := by rw [hwa, World.size_alloc, hx1]
  have hsb : wb.heap.size = x2 + 1 := by rw [hwb, World.size_alloc, hsa, hx2]
  have hba : Below w.heap.size w wa := hwa ▸ (Below.refl _ _).alloc (Nat.le_refl _) _
  have hbb : Below w.heap.size w wb := hwb ▸ hba.alloc (by omega) _
  have HB1 : Hid (Below w.heap.size w w1) := Lib.hid (hw1 ▸ hbb.alloc (by omega) _)
  have HE1 : Hid (Blk w1 x1 24 #[.int .i64 p, .int .i64 b, .slice A n c, .int .i64 s]) := Lib.hid (by rw [hw1, hwb, hwa, hx1]; exact ((Blk.new w _ _).alloc _).alloc _)
  have HM1 : Hid (Blk w1 x2 26 #[.int .i64 mk, .int .i64 mo, .int .i64 mn, .int .i64 mu, .int .i64 mv]) := Lib.hid (by rw [hw1, hwb, hx2, ← hsa]; exact (Blk.new wa _ _).alloc _)
  have HK1 : Hid (Blk w1 pr 24 #[.int .i64 0, .int .i64 0, .slice none 0 0, .int .i64 0]) := Lib.hid (by rw [hw1, hpr, ← hsb]; exact Blk.new wb _ _)
  have HPr : Hid (w.heap.size + 2 = pr) := Lib.hid (by omega)
  have HNe : Hid (x1 ≠ pr ∧ x2 ≠ pr) := Lib.hid (by omega)
  go_wp2_with fail
  rw [← hwa, ← hwb, ← hw1, ← hx1, ← hx2, ← hpr]
  clear hwa hwb hw1 hx1 hx2 hpr hsa hsb hba hbb wa wb
  refine (HG.out w1 HB1.out).mono ?_
  rintro e w2 ⟨rfl, hb2⟩
  have HB2 := Lib.hid (HB1.out.trans (hb2.mono HB1.out.size))
  have HE2 := Lib.hid (HE1.out.below hb2 HE1.out.lt)
  have HM2 := Lib.hid (HM1.out.below hb2 HM1.out.lt)
  have HK2 := Lib.hid (HK1.out.below hb2 HK1.out.lt)
  clear hb2 HE1 HM1 HK1 HB1
  by_cases hbe : Hf.Be ⟨p, b, o, s⟩
  case neg =>
    have HS : Hid (r = (Hf.zero, 24)) := Lib.hid (by rw [HP.out]; exact if_neg hbe)
    rw [decide_eq_false hbe]
    clear hbe
    have k2 := HK2.out
    have x0_ : w2.cell? ⟨pr, 0, none⟩ = some (.int .i64 0) := k2.cell 0
    have x1_ : w2.cell? ⟨pr, 1, none⟩ = some (.int .i64 0) := k2.cell 1
    have x2_ : w2.cell? ⟨pr, 2, none⟩ = some (.slice none 0 0) := k2.cell 2
    have x3_ : w2.cell? ⟨pr, 3, none⟩ = some (.int .i64 0) := k2.cell 3
    have f0_ : w2.frozen? ⟨pr, 0, none⟩ = false := k2.frozen 0
    have f1_ : w2.frozen? ⟨pr, 1, none⟩ = false := k2.frozen 1
    have f2_ : w2.frozen? ⟨pr, 2, none⟩ = false := k2.frozen 2
    have f3_ : w2.frozen? ⟨pr, 3, none⟩ = false := k2.frozen 3
    obtain ⟨w5, hw5, k5, hb5, ho5⟩ := edge_set k2 (.int .i64 0) (.int .i64 0) (.slice none 0 0) (.int .i64 0)
    have HB5 := Lib.hid (hb5 w.heap.size w (by have := HPr.out; omega) HB2.out)
    have HW5 := Lib.hid hw5
    have HO5 := Lib.hid ho5
    have y0_ : w5.cell? ⟨pr, 0, none⟩ = some (.int .i64 0) := k5.cell 0
    have y1_ : w5.cell? ⟨pr, 1, none⟩ = some (.int .i64 0) := k5.cell 1
    have y2_ : w5.cell? ⟨pr, 2, none⟩ = some (.slice none 0 0) := k5.cell 2
    have y3_ : w5.cell? ⟨pr, 3, none⟩ = some (.int .i64 0) := k5.cell 3
    clear k2 hw5 k5 hb5 ho5
    go_wp2
    rw [← HW5.out]
    refine bodyPost_ret (v := .tuple #[.agg #[.int .i64 0, .int .i64 0, .slice none 0 0, .int .i64 0], .int .i64 (24)]) (by simp [results, Try.f12, go_sem, y0_, y1_, y2_, y3_]) rfl ⟨.slice none 0 0, ?_, ?_, HB5.out⟩
    · rw [HS.out]; rfl
    · rw [HS.out]; exact OwnG.none_ _ _
  case pos =>
  rw [decide_eq_true hbe]
  have HBe := Lib.hid hbe
  clear hbe
  have m2 := HM2.out
  have z0 : w2.cell? ⟨x2, 0, none⟩ = some (.int .i64 mk) := m2.cell 0
  have z1 : w2.cell? ⟨x2, 1, none⟩ = some (.int .i64 mo) := m2.cell 1
  have z2 : w2.cell? ⟨x2, 2, none⟩ = some (.int .i64 mn) := m2.cell 2
  have z3 : w2.cell? ⟨x2, 3, none⟩ = some (.int .i64 mu) := m2.cell 3
  have z4 : w2.cell? ⟨x2, 4, none⟩ = some (.int .i64 mv) := m2.cell 4
  clear m2
  go_wp2_with fail
  refine (HV.out w2).mono ?_
  rintro e w3 ⟨rfl, hb3⟩
  have HB3 := Lib.hid (HB2.out.trans (hb3.mono HB2.out.size))
  have HE3 := Lib.hid (HE2.out.below hb3 HE2.out.lt)
  have HM3 := Lib.hid (HM2.out.below hb3 HM2.out.lt)
  have HK3 := Lib.hid (HK2.out.below hb3 HK2.out.lt)
  clear hb3 HE2 HM2 HK2 HB2 z0 z1 z2 z3 z4
  by_cases hmb : Mg.Be ⟨mk, mo, mn, mu, mv⟩
  case neg =>
    have HS : Hid (r = (Hf.zero, 1)) := Lib.hid (by rw [HP.out]; exact (if_pos HBe.out).trans (if_neg hmb))
    rw [decide_eq_false hmb]
    clear hmb
    have k2 := HK3.out
    have x0_ : w3.cell? ⟨pr, 0, none⟩ = some (.int .i64 0) := k2.cell 0
    have x1_ : w3.cell? ⟨pr, 1, none⟩ = some (.int .i64 0) := k2.cell 1
    have x2_ : w3.cell? ⟨pr, 2, none⟩ = some (.slice none 0 0) := k2.cell 2
    have x3_ : w3.cell? ⟨pr, 3, none⟩ = some (.int .i64 0) := k2.cell 3
    have f0_ : w3.frozen? ⟨pr, 0, none⟩ = false := k2.frozen 0
    have f1_ : w3.frozen? ⟨pr, 1, none⟩ = false := k2.frozen 1
    have f2_ : w3.frozen? ⟨pr, 2, none⟩ = false := k2.frozen 2
    have f3_ : w3.frozen? ⟨pr, 3, none⟩ = false := k2.frozen 3
    obtain ⟨w5, hw5, k5, hb5, ho5⟩ := edge_set k2 (.int .i64 0) (.int .i64 0) (.slice none 0 0) (.int .i64 0)
    have HB5 := Lib.hid (hb5 w.heap.size w (by have := HPr.out; omega) HB3.out)
    have HW5 := Lib.hid hw5
    have HO5 := Lib.hid ho5
    have y0_ : w5.cell? ⟨pr, 0, none⟩ = some (.int .i64 0) := k5.cell 0
    have y1_ : w5.cell? ⟨pr, 1, none⟩ = some (.int .i64 0) := k5.cell 1
    have y2_ : w5.cell? ⟨pr, 2, none⟩ = some (.slice none 0 0) := k5.cell 2
    have y3_ : w5.cell? ⟨pr, 3, none⟩ = some (.int .i64 0) := k5.cell 3
    clear k2 hw5 k5 hb5 ho5
    go_wp2
    rw [← HW5.out]
    refine bodyPost_ret (v := .tuple #[.agg #[.int .i64 0, .int .i64 0, .slice none 0 0, .int .i64 0], .int .i64 (1)]) (by simp [results, Try.f12, go_sem, y0_, y1_, y2_, y3_]) rfl ⟨.slice none 0 0, ?_, ?_, HB5.out⟩
    · rw [HS.out]; rfl
    · rw [HS.out]; exact OwnG.none_ _ _
  case pos =>
  rw [decide_eq_true hmb]
  have HMb := Lib.hid hmb
  clear hmb
  have e3 := HE3.out
  have z0 : w3.cell? ⟨x1, 0, none⟩ = some (.int .i64 p) := e3.cell 0
  have z1 : w3.cell? ⟨x1, 1, none⟩ = some (.int .i64 b) := e3.cell 1
  have z2 : w3.cell? ⟨x1, 2, none⟩ = some (.slice A n c) := e3.cell 2
  have z3 : w3.cell? ⟨x1, 3, none⟩ = some (.int .i64 s) := e3.cell 3
  have g0 : 0 ≤ b ∧ n ≤ 1024 ∧ b + (n : Int) ≤ 1099511627776 := by
    obtain ⟨h1, h2, h3, h4, h5, h6, h7, h8⟩ := HBe.out
    simp only at h3 h6 h7
    have := HL.out
    rw [this] at h6 h7
    exact ⟨h3, h6, h7⟩
  obtain ⟨g0, g1, g2⟩ := g0
  have hw : IntKind.i64.wrap (b + (n : Int)) = b + (n : Int) := IntWalk.i64_in _ (by omega)
  clear e3
  by_cases hfu : n = 1024 ∨ b + (n : Int) = 1099511627776
  case pos =>
    have HS : Hid (r = (Hf.zero, 23)) := Lib.hid (by rw [HP.out]; refine (if_pos HBe.out).trans ((if_pos HMb.out).trans (if_pos ?_)); unfold Hf.Full; simp only; rw [HL.out]; exact hfu)
    have hc1 : (n = 1024 ∧ ((n : Int) == 1024) = true) ∨ (((n : Int) == 1024) = false ∧ (b + (n : Int) == 1099511627776) = true) := by simp; omega
    clear hfu
    rcases hc1 with ⟨rfl, hc1⟩ | ⟨hc1, hc2⟩
    all_goals
      have k2 := HK3.out
      have x0_ : w3.cell? ⟨pr, 0, none⟩ = some (.int .i64 0) := k2.cell 0
      have x1_ : w3.cell? ⟨pr, 1, none⟩ = some (.int .i64 0) := k2.cell 1
      have x2_ : w3.cell? ⟨pr, 2, none⟩ = some (.slice none 0 0) := k2.cell 2
      have x3_ : w3.cell? ⟨pr, 3, none⟩ = some (.int .i64 0) := k2.cell 3
      have f0_ : w3.frozen? ⟨pr, 0, none⟩ = false := k2.frozen 0
      have f1_ : w3.frozen? ⟨pr, 1, none⟩ = false := k2.frozen 1
      have f2_ : w3.frozen? ⟨pr, 2, none⟩ = false := k2.frozen 2
      have f3_ : w3.frozen? ⟨pr, 3, none⟩ = false := k2.frozen 3
      obtain ⟨w5, hw5, k5, hb5, ho5⟩ := edge_set k2 (.int .i64 0) (.int .i64 0) (.slice none 0 0) (.int .i64 0)
      have HB5 := Lib.hid (hb5 w.heap.size w (by have := HPr.out; omega) HB3.out)
      have HW5 := Lib.hid hw5
      have HO5 := Lib.hid ho5
      have y0_ : w5.cell? ⟨pr, 0, none⟩ = some (.int .i64 0) := k5.cell 0
      have y1_ : w5.cell? ⟨pr, 1, none⟩ = some (.int .i64 0) := k5.cell 1
      have y2_ : w5.cell? ⟨pr, 2, none⟩ = some (.slice none 0 0) := k5.cell 2
      have y3_ : w5.cell? ⟨pr, 3, none⟩ = some (.int .i64 0) := k5.cell 3
      clear k2 hw5 k5 hb5 ho5
      go_wp2
      rw [← HW5.out]
      refine bodyPost_ret (v := .tuple #[.agg #[.int .i64 0, .int .i64 0, .slice none 0 0, .int .i64 0], .int .i64 (23)]) (by simp [results, Try.f12, go_sem, y0_, y1_, y2_, y3_]) rfl ⟨.slice none 0 0, ?_, ?_, HB5.out⟩
      · rw [HS.out]; rfl
      · rw [HS.out]; exact OwnG.none_ _ _
  case neg =>
  have hc1 : ((n : Int) == 1024) = false := by simp; omega
  have hc2 : (b + (n : Int) == 1099511627776) = false := by simp; omega
  have HS : Hid (r = (⟨p, b, o ++ [⟨mk, mo, mn, mu, mv⟩], s⟩, 0)) := Lib.hid (by rw [HP.out]; refine (if_pos HBe.out).trans ((if_pos HMb.out).trans (if_neg ?_)); unfold Hf.Full; simp only; rw [HL.out]; exact hfu)
  clear hfu
  have m3 := HM3.out
  have q0 : w3.cell? ⟨x2, 0, none⟩ = some (.int .i64 mk) := m3.cell 0
  have q1 : w3.cell? ⟨x2, 1, none⟩ = some (.int .i64 mo) := m3.cell 1
  have q2 : w3.cell? ⟨x2, 2, none⟩ = some (.int .i64 mn) := m3.cell 2
  have q3 : w3.cell? ⟨x2, 3, none⟩ = some (.int .i64 mu) := m3.cell 3
  have q4 : w3.cell? ⟨x2, 4, none⟩ = some (.int .i64 mv) := m3.cell 4
  clear m3
  have HR3 : Hid (Reads w3 w3.heap.size 5 A n (mgs o)) := Lib.hid ((HR.out.below HB3.out).more HB3.out.size)
  go_wp2_with fail
  go_region_held3 (fun w' => w'.cell? ⟨x1, 0, none⟩ = some (.int .i64 p) ∧ w'.cell? ⟨x1, 1, none⟩ = some (.int .i64 b) ∧ w'.cell? ⟨x1, 2, none⟩ = some (.slice A n c) ∧ w'.cell? ⟨x1, 3, none⟩ = some (.int .i64 s) ∧ w'.cell? ⟨x2, 0, none⟩ = some (.int .i64 mk) ∧ w'.cell? ⟨x2, 1, none⟩ = some (.int .i64 mo) ∧ w'.cell? ⟨x2, 2, none⟩ = some (.int .i64 mn) ∧ w'.cell? ⟨x2, 3, none⟩ = some (.int .i64 mu) ∧ w'.cell? ⟨x2, 4, none⟩ = some (.int .i64 mv)) (first | exact ⟨z0, z1, z2, z3, q0, q1, q2, q3, q4⟩ | exact Z7 | exact Z8 | exact Z9 | exact edge_cells (HE3.out.alloc _) (HM3.out.alloc _) | exact edge_cells ((HE3.out.alloc _).alloc _) ((HM3.out.alloc _).alloc _) | exact edge_cells ((HE3.out.below HB7.out HE3.out.lt).alloc _) ((HM3.out.below HB7.out HM3.out.lt).alloc _) | go_keep) (first
    | ((show (if Region.wanted ({ dst := _, op := Op.call { callee := Callee.builtin Builtin.append, args := #[Operand.tmp 32, Operand.tmp 34], argTypes := _ }, type := _, pos := _, after := _, guard := _ } : Oper) _ = true then _ else _)); (first
      | (refine stepM _ rfl (.tmp 32) (.tmp 34) rfl _ (.slice (some ⟨w3.heap.size, 0, none⟩) 0 0) [] rfl (by exact OwnG.fresh w3 _ (Nat.le_refl _)) w3.heap.size A c o n rfl (by exact HR3.out.alloc (Nat.le_refl _) _) (by simp; omega) (by first | (simp; done) | (simp; omega)) ?_; intro A7 n7 c7 w7 hown7 hg7 _; have HO7 : Hid (OwnG w7 w3.heap.size (.slice A7 n7 c7) o) := Lib.hid (hown7.mono_ (by first | exact Nat.le_refl _ | (simp; done) | (simp; omega))); have HB7 : Hid (Below w3.heap.size w3 w7) := Lib.hid ((below_drew_allocG w3 _).grown hg7 (by first | (simp; done) | (simp; omega)) (fun g e => by simp [Value.ownBlock] at e; first | omega | (subst e; simp))); have Z7 := edge_cells (HE3.out.below HB7.out HE3.out.lt) (HM3.out.below HB7.out HM3.out.lt); clear hown7 hg7)
      | (refine stepM _ rfl (.tmp 32) (.tmp 34) rfl _ (.slice (some ⟨w3.heap.size, 0, none⟩) 0 0) [] rfl (by exact (OwnG.fresh w3 _ (Nat.le_refl _)).alloc _) w3.heap.size A c o n rfl (by exact (HR3.out.alloc (Nat.le_refl _) _).alloc (by simp) _) (by simp; omega) (by first | (simp; done) | (simp; omega)) ?_; intro A7 n7 c7 w7 hown7 hg7 _; have HO7 : Hid (OwnG w7 w3.heap.size (.slice A7 n7 c7) o) := Lib.hid (hown7.mono_ (by first | exact Nat.le_refl _ | (simp; done) | (simp; omega))); have HB7 : Hid (Below w3.heap.size w3 w7) := Lib.hid ((show Below w3.heap.size w3 _ from below_drewG (((Below.refl w3.heap.size w3).alloc (Nat.le_refl _) _).alloc (by simp) _) 1).grown hg7 (by first | (simp; done) | (simp; omega)) (fun g e => by simp [Value.ownBlock] at e; first | omega | (subst e; simp))); have KM := Lib.hid (((Blk.new (w3.alloc (.cells #[] 26)) 26 #[.int .i64 mk, .int .i64 mo, .int .i64 mn, .int .i64 mu, .int .i64 mv]).drewN 1).grown hg7 (fun e => by simp [Value.ownBlock] at e)); have Z7 := edge_cells (HE3.out.below HB7.out HE3.out.lt) (HM3.out.below HB7.out HM3.out.lt); clear hown7 hg7)
      | (refine stepM _ rfl (.tmp 32) (.tmp 34) rfl _ (.slice (some ⟨(w3.heap.size + 1), 0, none⟩) 0 0) [] rfl (by have hfr := OwnG.fresh (w3.alloc (.cells #[.int .i64 mk, .int .i64 mo, .int .i64 mn, .int .i64 mu, .int .i64 mv] 26)) _ (Nat.le_refl _); rw [World.size_alloc] at hfr; exact hfr) w3.heap.size A c o n rfl (by exact (HR3.out.alloc (Nat.le_refl _) _).alloc (by simp) _) (by simp; omega) (by first | (simp; done) | (simp; omega)) ?_; intro A7 n7 c7 w7 hown7 hg7 _; have HO7 : Hid (OwnG w7 w3.heap.size (.slice A7 n7 c7) o) := Lib.hid (hown7.mono_ (by first | exact Nat.le_refl _ | (simp; done) | (simp; omega))); have HB7 : Hid (Below w3.heap.size w3 w7) := Lib.hid ((show Below w3.heap.size w3 _ from below_drewG (((Below.refl w3.heap.size w3).alloc (Nat.le_refl _) _).alloc (by simp) _) 1).grown hg7 (by first | (simp; done) | (simp; omega)) (fun g e => by simp [Value.ownBlock] at e; first | omega | (subst e; simp))); have KM := Lib.hid ((((Blk.new w3 26 #[.int .i64 mk, .int .i64 mo, .int .i64 mn, .int .i64 mu, .int .i64 mv]).alloc (.cells #[] 26)).drewN 1).grown hg7 (fun e => by simp [Value.ownBlock] at e)); have Z7 := edge_cells (HE3.out.below HB7.out HE3.out.lt) (HM3.out.below HB7.out HM3.out.lt); clear hown7 hg7)))
    | ((show (if Region.wanted ({ dst := _, op := Op.call { callee := Callee.builtin Builtin.append, args := #[Operand.tmp 35, Operand.tmp 37], argTypes := _ }, type := _, pos := _, after := _, guard := _ } : Oper) _ = true then _ else _)); (first
      | (refine stepM _ rfl (.tmp 35) (.tmp 37) rfl w3.heap.size (.slice A7 n7 c7) o rfl (by exact HO7.out.alloc _) _ (some ⟨w7.heap.size, 0, none⟩) 1 [⟨mk, mo, mn, mu, mv⟩] 1 rfl (by exact reads_msg w7 _ ⟨mk, mo, mn, mu, mv⟩) (by have := HL.out; omega) (by have := HB7.out.size; first | omega | (simp; omega)) ?_; intro A8 n8 c8 w8 hown8 hg8 _; have HO8 := Lib.hid hown8; have HB8 : Hid (Below w3.heap.size w3 w8) := Lib.hid ((HB7.out.alloc HB7.out.size _).grown hg8 (by have := HB7.out.size; first | omega | (simp; omega)) (ownG_base HO7.out)); have Z8 := edge_cells (HE3.out.below HB8.out HE3.out.lt) (HM3.out.below HB8.out HM3.out.lt); have k8 := HK3.out.below HB8.out HK3.out.lt; have f0_ : w8.frozen? ⟨pr, 0, none⟩ = false := k8.frozen 0; have f1_ : w8.frozen? ⟨pr, 1, none⟩ = false := k8.frozen 1; have f2_ : w8.frozen? ⟨pr, 2, none⟩ = false := k8.frozen 2; have f3_ : w8.frozen? ⟨pr, 3, none⟩ = false := k8.frozen 3; have x0_ : w8.cell? ⟨pr, 0, none⟩ = some (.int .i64 0) := k8.cell 0; have x1_ : w8.cell? ⟨pr, 1, none⟩ = some (.int .i64 0) := k8.cell 1; have x2_ : w8.cell? ⟨pr, 2, none⟩ = some (.slice none 0 0) := k8.cell 2; have x3_ : w8.cell? ⟨pr, 3, none⟩ = some (.int .i64 0) := k8.cell 3; have Z9 := edge_cells (((((HE3.out.below HB8.out HE3.out.lt).far (p := ⟨pr, 0, none⟩) (show x1 ≠ pr from HNe.out.1) (.int .i64 p)).far (p := ⟨pr, 1, none⟩) (show x1 ≠ pr from HNe.out.1) (.int .i64 b)).far (p := ⟨pr, 2, none⟩) (show x1 ≠ pr from HNe.out.1) (.slice A8 n8 c8)).far (p := ⟨pr, 3, none⟩) (show x1 ≠ pr from HNe.out.1) (.int .i64 s)) (((((HM3.out.below HB8.out HM3.out.lt).far (p := ⟨pr, 0, none⟩) (show x2 ≠ pr from HNe.out.2) (.int .i64 p)).far (p := ⟨pr, 1, none⟩) (show x2 ≠ pr from HNe.out.2) (.int .i64 b)).far (p := ⟨pr, 2, none⟩) (show x2 ≠ pr from HNe.out.2) (.slice A8 n8 c8)).far (p := ⟨pr, 3, none⟩) (show x2 ≠ pr from HNe.out.2) (.int .i64 s)); have HKr8 := Lib.hid k8; clear hown8 hg8 k8)
      | (refine stepM _ rfl (.tmp 35) (.tmp 37) rfl w3.heap.size (.slice A7 n7 c7) o rfl (by exact HO7.out) _ (some ⟨w3.heap.size + 1, 0, none⟩) 1 [⟨mk, mo, mn, mu, mv⟩] 1 rfl (by exact reads_blkM (m := ⟨mk, mo, mn, mu, mv⟩) (by simpa using KM.out)) (by have := HL.out; omega) (by have := HB7.out.size; first | omega | (simp; omega)) ?_; intro A8 n8 c8 w8 hown8 hg8 _; have HO8 := Lib.hid hown8; have HB8 : Hid (Below w3.heap.size w3 w8) := Lib.hid ((HB7.out).grown hg8 (by have := HB7.out.size; first | omega | (simp; omega)) (ownG_base HO7.out)); have Z8 := edge_cells (HE3.out.below HB8.out HE3.out.lt) (HM3.out.below HB8.out HM3.out.lt); have k8 := HK3.out.below HB8.out HK3.out.lt; have f0_ : w8.frozen? ⟨pr, 0, none⟩ = false := k8.frozen 0; have f1_ : w8.frozen? ⟨pr, 1, none⟩ = false := k8.frozen 1; have f2_ : w8.frozen? ⟨pr, 2, none⟩ = false := k8.frozen 2; have f3_ : w8.frozen? ⟨pr, 3, none⟩ = false := k8.frozen 3; have x0_ : w8.cell? ⟨pr, 0, none⟩ = some (.int .i64 0) := k8.cell 0; have x1_ : w8.cell? ⟨pr, 1, none⟩ = some (.int .i64 0) := k8.cell 1; have x2_ : w8.cell? ⟨pr, 2, none⟩ = some (.slice none 0 0) := k8.cell 2; have x3_ : w8.cell? ⟨pr, 3, none⟩ = some (.int .i64 0) := k8.cell 3; have Z9 := edge_cells (((((HE3.out.below HB8.out HE3.out.lt).far (p := ⟨pr, 0, none⟩) (show x1 ≠ pr from HNe.out.1) (.int .i64 p)).far (p := ⟨pr, 1, none⟩) (show x1 ≠ pr from HNe.out.1) (.int .i64 b)).far (p := ⟨pr, 2, none⟩) (show x1 ≠ pr from HNe.out.1) (.slice A8 n8 c8)).far (p := ⟨pr, 3, none⟩) (show x1 ≠ pr from HNe.out.1) (.int .i64 s)) (((((HM3.out.below HB8.out HM3.out.lt).far (p := ⟨pr, 0, none⟩) (show x2 ≠ pr from HNe.out.2) (.int .i64 p)).far (p := ⟨pr, 1, none⟩) (show x2 ≠ pr from HNe.out.2) (.int .i64 b)).far (p := ⟨pr, 2, none⟩) (show x2 ≠ pr from HNe.out.2) (.slice A8 n8 c8)).far (p := ⟨pr, 3, none⟩) (show x2 ≠ pr from HNe.out.2) (.int .i64 s)); have HKr8 := Lib.hid k8; clear hown8 hg8 k8)
      | (refine stepM _ rfl (.tmp 35) (.tmp 37) rfl w3.heap.size (.slice A7 n7 c7) o rfl (by exact HO7.out) _ (some ⟨w3.heap.size, 0, none⟩) 1 [⟨mk, mo, mn, mu, mv⟩] 1 rfl (by exact reads_blkM (m := ⟨mk, mo, mn, mu, mv⟩) (by simpa using KM.out)) (by have := HL.out; omega) (by have := HB7.out.size; first | omega | (simp; omega)) ?_; intro A8 n8 c8 w8 hown8 hg8 _; have HO8 := Lib.hid hown8; have HB8 : Hid (Below w3.heap.size w3 w8) := Lib.hid ((HB7.out).grown hg8 (by have := HB7.out.size; first | omega | (simp; omega)) (ownG_base HO7.out)); have Z8 := edge_cells (HE3.out.below HB8.out HE3.out.lt) (HM3.out.below HB8.out HM3.out.lt); have k8 := HK3.out.below HB8.out HK3.out.lt; have f0_ : w8.frozen? ⟨pr, 0, none⟩ = false := k8.frozen 0; have f1_ : w8.frozen? ⟨pr, 1, none⟩ = false := k8.frozen 1; have f2_ : w8.frozen? ⟨pr, 2, none⟩ = false := k8.frozen 2; have f3_ : w8.frozen? ⟨pr, 3, none⟩ = false := k8.frozen 3; have x0_ : w8.cell? ⟨pr, 0, none⟩ = some (.int .i64 0) := k8.cell 0; have x1_ : w8.cell? ⟨pr, 1, none⟩ = some (.int .i64 0) := k8.cell 1; have x2_ : w8.cell? ⟨pr, 2, none⟩ = some (.slice none 0 0) := k8.cell 2; have x3_ : w8.cell? ⟨pr, 3, none⟩ = some (.int .i64 0) := k8.cell 3; have Z9 := edge_cells (((((HE3.out.below HB8.out HE3.out.lt).far (p := ⟨pr, 0, none⟩) (show x1 ≠ pr from HNe.out.1) (.int .i64 p)).far (p := ⟨pr, 1, none⟩) (show x1 ≠ pr from HNe.out.1) (.int .i64 b)).far (p := ⟨pr, 2, none⟩) (show x1 ≠ pr from HNe.out.1) (.slice A8 n8 c8)).far (p := ⟨pr, 3, none⟩) (show x1 ≠ pr from HNe.out.1) (.int .i64 s)) (((((HM3.out.below HB8.out HM3.out.lt).far (p := ⟨pr, 0, none⟩) (show x2 ≠ pr from HNe.out.2) (.int .i64 p)).far (p := ⟨pr, 1, none⟩) (show x2 ≠ pr from HNe.out.2) (.int .i64 b)).far (p := ⟨pr, 2, none⟩) (show x2 ≠ pr from HNe.out.2) (.slice A8 n8 c8)).far (p := ⟨pr, 3, none⟩) (show x2 ≠ pr from HNe.out.2) (.int .i64 s)); have HKr8 := Lib.hid k8; clear hown8 hg8 k8))))
  all_goals
    obtain ⟨w5, hw5, k5, hb5, ho5⟩ := edge_set HKr8.out (.int .i64 p) (.int .i64 b) (.slice A8 n8 c8) (.int .i64 s)
    have HB5 := Lib.hid (hb5 w.heap.size w (by have := HPr.out; omega) (HB3.out.trans (HB8.out.mono HB3.out.size)))
    have HW5 := Lib.hid hw5
    have HO5 : Hid (OwnG w5 w.heap.size (.slice A8 n8 c8) (o ++ [⟨mk, mo, mn, mu, mv⟩])) := Lib.hid (OwnG.mono_ (l := o ++ [⟨mk, mo, mn, mu, mv⟩]) (ho5 _ _ _ HO8.out (fun e => by have := ownG_base HO8.out _ e; have := HK3.out.lt; omega)) HB3.out.size)
    have y0_ : w5.cell? ⟨pr, 0, none⟩ = some (.int .i64 p) := k5.cell 0
    have y1_ : w5.cell? ⟨pr, 1, none⟩ = some (.int .i64 b) := k5.cell 1
    have y2_ : w5.cell? ⟨pr, 2, none⟩ = some (.slice A8 n8 c8) := k5.cell 2
    have y3_ : w5.cell? ⟨pr, 3, none⟩ = some (.int .i64 s) := k5.cell 3
    clear hw5 k5 hb5 ho5
    go_wp2
    rw [← HW5.out]
    refine bodyPost_ret (v := .tuple #[.agg #[.int .i64 p, .int .i64 b, .slice A8 n8 c8, .int .i64 s], .int .i64 0]) (by simp [results, Try.f12, go_sem, y0_, y1_, y2_, y3_]) rfl ⟨.slice A8 n8 c8, ?_, ?_, HB5.out⟩
    · rw [HS.out]
    · rw [HS.out]; exact HO5.out
end Go.Proofs.Ytneijohbmphheaa.Pk
