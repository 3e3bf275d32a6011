/- The walk of the law CoreOld. -/
import Derived.Test.YtiaafhcfeeekeaaZCoLose
import Derived.Test.YtiaafhcfeeekeaaZChFacts
import Derived.Test.YtiaafhcfeeekeaaZCoSend
import Derived.Test.YtiaafhcfeeekeaaZStSame
import Derived.Deep.RegionHeld3
import Derived.Deep.DeepMust
namespace Go.Proofs.Ytiaafhcfeeekeaa.Pk
open Go.RowKit Go.Proofs.Ytiaafhcfeeekeaa.Gr Go.Proofs.Ytiaafhcfeeekeaa.Ar
set_option linter.unusedVariables false
theorem sideA_vo {s : StL} {i : Nat} {r : SdL} (h : s.es[i]? = some r) : sideA s.v i = r.v := by
  unfold sideA
  show (s.es.map SdL.v).getD i _ = _
  rw [List.getD_eq_getElem?_getD, List.getElem?_map, h]; rfl
/-- What Apply makes of a datagram. -/
def evG (g : Gm) : Ev := ⟨4, 0, g⟩
theorem stepG (ps : List Int) (s : St) (g : Gm) : stepS ps s (evG g) = ((gramS ps s g).1, 0, (gramS ps s g).2) := by
  unfold stepS evG
  rw [if_neg (by show ¬ ((4 : Int) < 1 ∨ (4 : Int) < 4); omega), if_pos rfl]
theorem applyG {ps : List Int} (G : Gr.Good ps) {s : St} {g : Gm} (h : (applyS ps s (evG g)).2.2 = 0) : GoodS ps s ∧ (gramS ps s g).2 = 0 ∧ (applyS ps s (evG g)).1 = (gramS ps s g).1 ∧ (applyS ps (gramS ps s g).1 (evG g)).2.2 = 0 ∧ (applyS ps (gramS ps s g).1 (evG g)).1 = (gramS ps (gramS ps s g).1 g).1 := by
  obtain ⟨a1, a2, a3⟩ := applyS_zero h
  rw [stepG] at a2
  have h2 := gram_twice G a1 a2
  have hg := gram_good G a1 a2
  have e : (stepS ps (gramS ps s g).1 (evG g)).2.2 = 0 := by rw [stepG]; exact h2.1
  refine ⟨a1, a2, by rw [a3, stepG], by rw [applyS_ok hg e]; exact e, by rw [applyS_ok hg e, stepG]⟩
set_option maxRecDepth 100000 in
set_option maxHeartbeats 8000000 in
theorem law_CoreOld (HFi : StFirstP) (HAp : CoApplyP) (A : Option Addr) (n c : Nat) (ps : List Int) (s : StL) (g : Gm) (w : World) (hk : ArgN w A n c ps) (hs : InS w s) (he : g.I) :
    Calls Try.prog 6 #[.slice A n c, s.val, g.val] w fun e w' => e = .returned (.bool true) ∧ Below w.heap.size w w' := by
  have HW := Lib.hid (fun w => wakesC HFi HAp w)
  have HRd := Lib.hid hk.1
  have hn : n ≤ 4611686018427387904 := by have h1 := hk.2.1; have h2 := hk.2.2.1; omega
  have HI := Lib.hid hs
  have HE : Hid (evG g).I := Lib.hid ⟨by show I64 4; unfold I64; omega, by show I64 0; unfold I64; omega, he⟩
  have HAp := Lib.hid HAp
  clear hk hs he
  obtain ⟨p, hp⟩ : ∃ p, p = w.heap.size := ⟨_, rfl⟩
  obtain ⟨pe, hpe⟩ : ∃ x, x = p + 1 := ⟨_, rfl⟩
  obtain ⟨wa, hwa⟩ : ∃ wa, wa = w.alloc (.cells s.val.cells 28) := ⟨_, rfl⟩
  obtain ⟨W1, hW1⟩ : ∃ W1, W1 = wa.alloc (.cells g.val.cells 32) := ⟨_, rfl⟩
  have hsa : wa.heap.size = p + 1 := by rw [hwa, World.size_alloc, hp]
  have hba : Below w.heap.size w wa := hwa ▸ (Below.refl _ _).alloc (Nat.le_refl _) _
  have HB1 : Hid (Below w.heap.size w W1) := Lib.hid (hW1 ▸ hba.alloc (by omega) _)
  have HKp : Hid (Blk W1 p 28 s.val.cells) := Lib.hid (by rw [hW1, hwa, hp]; exact (Blk.new w _ _).alloc _)
  have HKt : Hid (Blk W1 pe 32 g.val.cells) := Lib.hid (by rw [hW1, hpe, ← hsa]; exact Blk.new wa _ _)
  have tr : ∀ {W w' : World}, Below W1.heap.size W1 W → Below W.heap.size W w' → Below W1.heap.size W1 w' := fun h k => h.trans (k.mono h.size)
  have HTr : Hid (∀ {W w' : World}, Below W1.heap.size W1 W → Below W.heap.size W w' → Below W1.heap.size W1 w') := Lib.hid tr
  have HIW := Lib.hid (fun W (hW : Below W1.heap.size W1 W) => HI.out.next (HB1.out.trans (hW.mono HB1.out.size)))
  have HWa : Hid (∀ W, Below W1.heap.size W1 W → Calls Try.prog 10 #[] W fun e w' => e = .returned (.bool true) ∧ Below W1.heap.size W1 w') := Lib.hid (fun W hW => (HW.out W).mono fun e w' h => ⟨h.1, tr hW h.2⟩)
  have HHv : Hid (∀ W, Below W1.heap.size W1 W → Calls Try.prog 12 #[s.val] W fun e w' => IsBool e ∧ Below W.heap.size W w') := Lib.hid (fun W hW => heavy_any s W (HIW.out W hW))
  have HAp9 : Hid (∀ (T gg : Nat) (W0 : World), IsTr W0 T gg ps → Gr.Good ps → ∀ (z : StL) (W : World), Below W0.heap.size W0 W → InS W z → Calls Try.prog 13 #[.pointer (some ⟨T, 0, none⟩), z.val, (evG g).val] W fun e w' => ∃ s2 : StL, e = .returned (.tuple #[s2.val, .int .i64 (applyS ps z.v (evG g)).2.1, .int .i64 (applyS ps z.v (evG g)).2.2]) ∧ s2.v = (applyS ps z.v (evG g)).1 ∧ InS w' s2 ∧ Below W.heap.size W w') := Lib.hid (fun T gg W0 ht G z W hW hz => (HAp.out T gg ps z (evG g) W (ht.below_ hW) G hz HE.out).mono fun e w' ⟨s2, h1, h2, h3, h4⟩ => ⟨s2, h1, h2, h3.few (by rw [h2]; exact applyS_few G), h4⟩)
  clear tr HAp HE HW HI
  obtain ⟨me, os, ⟨D1, d1, k1⟩, es, ⟨D2, d2, k2⟩, q, as_, ⟨D3, d3, k3⟩, gs, ⟨D4, d4, k4⟩⟩ := s
  obtain ⟨gf, gt, ga, gs_, ⟨mk, mo, mn, mu, mv⟩⟩ := g
  simp only [StL.val, Sl.val, Gm.val, Value.cells] at HKp HKt HHv hwa hW1 ⊢
  have HX : Hid (∀ W, Below W1.heap.size W1 W → W.cell? ⟨p, 0, none⟩ = some (.int .i64 me) ∧ W.cell? ⟨p, 1, none⟩ = some (.slice D1 d1 k1) ∧ W.cell? ⟨p, 2, none⟩ = some (.slice D2 d2 k2) ∧ W.cell? ⟨p, 3, none⟩ = some (.int .i64 q) ∧ W.cell? ⟨p, 4, none⟩ = some (.slice D3 d3 k3) ∧ W.cell? ⟨p, 5, none⟩ = some (.slice D4 d4 k4) ∧ W.cell? ⟨pe, 0, none⟩ = some (.int .i64 gf) ∧ W.cell? ⟨pe, 1, none⟩ = some (.int .i64 gt) ∧ W.cell? ⟨pe, 2, none⟩ = some (.int .i64 ga) ∧ W.cell? ⟨pe, 3, none⟩ = some (.int .i64 gs_) ∧ W.cell? ⟨pe, 4, none⟩ = some (.int .i64 mk) ∧ W.cell? ⟨pe, 5, none⟩ = some (.int .i64 mo) ∧ W.cell? ⟨pe, 6, none⟩ = some (.int .i64 mn) ∧ W.cell? ⟨pe, 7, none⟩ = some (.int .i64 mu) ∧ W.cell? ⟨pe, 8, none⟩ = some (.int .i64 mv)) := Lib.hid (fun W hW => by
    have h1 := HKp.out.below hW HKp.out.lt
    have h2 := HKt.out.below hW HKt.out.lt
    exact ⟨h1.cell 0, h1.cell 1, h1.cell 2, h1.cell 3, h1.cell 4, h1.cell 5, h2.cell 0, h2.cell 1, h2.cell 2, h2.cell 3, h2.cell 4, h2.cell 5, h2.cell 6, h2.cell 7, h2.cell 8⟩)
  go_enter Try.func6, Try.ntmps6
  go_wp2_with fail
  rw [← hwa, ← hW1]
  clear hwa hba hsa
  refine (HWa.out _ (Below.refl _ _)).mono ?_
  rintro e w3 ⟨rfl, hb⟩
  have HB3 := Lib.hid hb
  have HB3w := Lib.hid (HB1.out.trans (HB3.out.mono HB1.out.size))
  have HN := Lib.hid (new_any A n c ps w3 w.heap.size (HRd.out.below HB3w.out) HB3w.out.size hn)
  clear hb hW1
  rw [← hp, ← hpe]
  clear hp hpe
  go_wp2_with fail
  refine HN.out.mono ?_
  rintro e w4 ⟨hb4, ⟨T, g, rfl, hch, ht, hT, hg, hTg⟩ | ⟨u, er, rfl, hch, her⟩⟩
  · have hG := hch.good.1
    have HG := Lib.hid hG
    have HB4 : Hid (Below W1.heap.size W1 w4) := Lib.hid (HB3.out.trans (hb4.mono HB3.out.size))
    have HAp9 := Lib.hid (HAp9.out T g w4 ht hG)
    obtain ⟨x0, x1, x2, x3, x4, x5, y0, y1, y2, y3, y4, y5, y6, y7, y8⟩ := HX.out w4 HB4.out
    clear hb4 hch ht hT hg hTg HN hG HWa HRd HB3 HB3w
    go_wp2_with fail
    refine (HHv.out _ HB4.out).mono ?_
    rintro e w5 ⟨⟨b, rfl⟩, hb⟩
    have HB5 := Lib.hid (HTr.out HB4.out hb)
    have HD5 := Lib.hid hb
    clear hb x0 x1 x2 x3 x4 x5 y0 y1 y2 y3 y4 y5 y6 y7 y8 HHv
    cases b
    · obtain ⟨pv, hpv⟩ : ∃ k, k = w5.heap.size := ⟨_, rfl⟩
      obtain ⟨w6, hw6⟩ : ∃ V, V = w5.alloc (.cells #[.int .i64 4, .int .i64 0, .int .i64 gf, .int .i64 gt, .int .i64 ga, .int .i64 gs_, .int .i64 mk, .int .i64 mo, .int .i64 mn, .int .i64 mu, .int .i64 mv] 34) := ⟨_, rfl⟩
      have hb56 : Below w5.heap.size w5 w6 := hw6 ▸ (Below.refl _ _).alloc (Nat.le_refl _) _
      have HB6 := Lib.hid (HTr.out HB5.out hb56)
      have HD6 := Lib.hid (HD5.out.trans (hb56.mono HD5.out.size))
      have HKv : Hid (Blk w6 pv 34 #[.int .i64 4, .int .i64 0, .int .i64 gf, .int .i64 gt, .int .i64 ga, .int .i64 gs_, .int .i64 mk, .int .i64 mo, .int .i64 mn, .int .i64 mu, .int .i64 mv]) := Lib.hid (by rw [hw6, hpv]; exact Blk.new w5 _ _)
      have HXv : Hid (∀ W, Below w6.heap.size w6 W → W.cell? ⟨pv, 0, none⟩ = some (.int .i64 4) ∧ W.cell? ⟨pv, 1, none⟩ = some (.int .i64 0) ∧ W.cell? ⟨pv, 2, none⟩ = some (.int .i64 gf) ∧ W.cell? ⟨pv, 3, none⟩ = some (.int .i64 gt) ∧ W.cell? ⟨pv, 4, none⟩ = some (.int .i64 ga) ∧ W.cell? ⟨pv, 5, none⟩ = some (.int .i64 gs_) ∧ W.cell? ⟨pv, 6, none⟩ = some (.int .i64 mk) ∧ W.cell? ⟨pv, 7, none⟩ = some (.int .i64 mo) ∧ W.cell? ⟨pv, 8, none⟩ = some (.int .i64 mn) ∧ W.cell? ⟨pv, 9, none⟩ = some (.int .i64 mu) ∧ W.cell? ⟨pv, 10, none⟩ = some (.int .i64 mv)) := Lib.hid (fun W hW => by
        have h2 := HKv.out.below hW HKv.out.lt
        exact ⟨h2.cell 0, h2.cell 1, h2.cell 2, h2.cell 3, h2.cell 4, h2.cell 5, h2.cell 6, h2.cell 7, h2.cell 8, h2.cell 9, h2.cell 10⟩)
      have HCa := Lib.hid (HAp9.out (⟨me, os, ⟨D1, d1, k1⟩, es, ⟨D2, d2, k2⟩, q, as_, ⟨D3, d3, k3⟩, gs, ⟨D4, d4, k4⟩⟩ : StL) w6 HD6.out (HIW.out w6 HB6.out))
      obtain ⟨x0, x1, x2, x3, x4, x5, y0, y1, y2, y3, y4, y5, y6, y7, y8⟩ := HX.out w5 HB5.out
      have X6 := HX.out w6 HB6.out
      rw [hw6] at X6
      obtain ⟨a0, a1, a2, a3, a4, a5, _⟩ := X6
      clear hb56 HKv
      go_wp2_with fail
      rw [← hw6]
      try rw [← hpv]
      clear hw6 hpv a0 a1 a2 a3 a4 a5 x0 x1 x2 x3 x4 x5 y0 y1 y2 y3 y4 y5 y6 y7 y8
      obtain ⟨⟨t2, n2, e2⟩, ht2⟩ : ∃ x, x = applyS ps (⟨me, os, ⟨D1, d1, k1⟩, es, ⟨D2, d2, k2⟩, q, as_, ⟨D3, d3, k3⟩, gs, ⟨D4, d4, k4⟩⟩ : StL).v (evG (⟨gf, gt, ga, gs_, ⟨mk, mo, mn, mu, mv⟩⟩ : Gm)) := ⟨_, rfl⟩
      rw [← ht2] at HCa
      have HT2 := Lib.hid ht2
      clear ht2
      refine HCa.out.mono ?_
      rintro e w7 ⟨s2, rfl, hv2, hi2, hb⟩
      rename_i K1 hK1 K2 hK2
      have HK1 := Lib.hid hK1
      clear hK1
      have HB7 := Lib.hid (HTr.out HB6.out hb)
      obtain ⟨pa, hpa⟩ : ∃ k, k = w7.heap.size := ⟨_, rfl⟩
      obtain ⟨w8, hw8⟩ : ∃ V, V = w7.alloc (.cells s2.val.cells 28) := ⟨_, rfl⟩
      have hb78 : Below w7.heap.size w7 w8 := hw8 ▸ (Below.refl _ _).alloc (Nat.le_refl _) _
      have HB8 := Lib.hid (HTr.out HB7.out hb78)
      have HE8 : Hid (Below w6.heap.size w6 w8) := Lib.hid (hb.trans (hb78.mono hb.size))
      have HD8 : Hid (Below w4.heap.size w4 w8) := Lib.hid (HD6.out.trans (HE8.out.mono HD6.out.size))
      have HI2 := Lib.hid (hi2.next hb78)
      have HV2 := Lib.hid hv2
      have HKa : Hid (Blk w8 pa 28 s2.val.cells) := Lib.hid (by rw [hw8, hpa]; exact Blk.new w7 _ _)
      have HS1 := Lib.hid (fun W (hW : Below w8.heap.size w8 W) => HIW.out W (HTr.out HB8.out hW))
      have HS2 := Lib.hid (fun W (hW : Below w8.heap.size w8 W) => HI2.out.next hW)
      clear hb hv2 hi2 hb78 HIW HCa HI2
      obtain ⟨me2, os2, ⟨F1, f1, j1⟩, es2, ⟨F2, f2, j2⟩, q2, as2, ⟨F3, f3, j3⟩, gs2, ⟨F4, f4, j4⟩⟩ := s2
      simp only [StL.val, Sl.val, Value.cells] at HKa hw8 ⊢
      have HZ : Hid (∀ W, Below w8.heap.size w8 W → W.cell? ⟨pa, 0, none⟩ = some (.int .i64 me2) ∧ W.cell? ⟨pa, 1, none⟩ = some (.slice F1 f1 j1) ∧ W.cell? ⟨pa, 2, none⟩ = some (.slice F2 f2 j2) ∧ W.cell? ⟨pa, 3, none⟩ = some (.int .i64 q2) ∧ W.cell? ⟨pa, 4, none⟩ = some (.slice F3 f3 j3) ∧ W.cell? ⟨pa, 5, none⟩ = some (.slice F4 f4 j4)) := Lib.hid (fun W hW => by
        have h1 := HKa.out.below hW HKa.out.lt
        exact ⟨h1.cell 0, h1.cell 1, h1.cell 2, h1.cell 3, h1.cell 4, h1.cell 5⟩)
      have HX8 : Hid (∀ W, Below w8.heap.size w8 W → W.cell? ⟨p, 0, none⟩ = some (.int .i64 me) ∧ W.cell? ⟨p, 1, none⟩ = some (.slice D1 d1 k1) ∧ W.cell? ⟨p, 2, none⟩ = some (.slice D2 d2 k2) ∧ W.cell? ⟨p, 3, none⟩ = some (.int .i64 q) ∧ W.cell? ⟨p, 4, none⟩ = some (.slice D3 d3 k3) ∧ W.cell? ⟨p, 5, none⟩ = some (.slice D4 d4 k4) ∧ W.cell? ⟨pe, 0, none⟩ = some (.int .i64 gf) ∧ W.cell? ⟨pe, 1, none⟩ = some (.int .i64 gt) ∧ W.cell? ⟨pe, 2, none⟩ = some (.int .i64 ga) ∧ W.cell? ⟨pe, 3, none⟩ = some (.int .i64 gs_) ∧ W.cell? ⟨pe, 4, none⟩ = some (.int .i64 mk) ∧ W.cell? ⟨pe, 5, none⟩ = some (.int .i64 mo) ∧ W.cell? ⟨pe, 6, none⟩ = some (.int .i64 mn) ∧ W.cell? ⟨pe, 7, none⟩ = some (.int .i64 mu) ∧ W.cell? ⟨pe, 8, none⟩ = some (.int .i64 mv)) := Lib.hid (fun W hW => HX.out W (HTr.out HB8.out hW))
      have HV8 : Hid (∀ W, Below w8.heap.size w8 W → W.cell? ⟨pv, 0, none⟩ = some (.int .i64 4) ∧ W.cell? ⟨pv, 1, none⟩ = some (.int .i64 0) ∧ W.cell? ⟨pv, 2, none⟩ = some (.int .i64 gf) ∧ W.cell? ⟨pv, 3, none⟩ = some (.int .i64 gt) ∧ W.cell? ⟨pv, 4, none⟩ = some (.int .i64 ga) ∧ W.cell? ⟨pv, 5, none⟩ = some (.int .i64 gs_) ∧ W.cell? ⟨pv, 6, none⟩ = some (.int .i64 mk) ∧ W.cell? ⟨pv, 7, none⟩ = some (.int .i64 mo) ∧ W.cell? ⟨pv, 8, none⟩ = some (.int .i64 mn) ∧ W.cell? ⟨pv, 9, none⟩ = some (.int .i64 mu) ∧ W.cell? ⟨pv, 10, none⟩ = some (.int .i64 mv)) := Lib.hid (fun W hW => HXv.out W (HE8.out.trans (hW.mono HE8.out.size)))
      clear HKa HX HXv
      obtain ⟨x0, x1, x2, x3, x4, x5, y0, y1, y2, y3, y4, y5, y6, y7, y8⟩ := HX8.out w8 (Below.refl _ _)
      go_wp2_with fail
      rw [← hw8, ← hpa]
      clear hw8 hpa
      refine HK1.out _ _ ?_
      clear HK1
      by_cases h0 : e2 = 0
      rotate_left
      · have t1 : (e2 == 0) = false := by simpa using h0
        have t3 : (e2 != 0) = true := by simpa using h0
        clear HT2
        go_wp2
        go_ret
        exact ⟨rfl, HB1.out.trans (HB8.out.mono HB1.out.size)⟩
      subst h0
      obtain ⟨b1, b2, b3, b4, b5⟩ := applyG (s := (⟨me, os, ⟨D1, d1, k1⟩, es, ⟨D2, d2, k2⟩, q, as_, ⟨D3, d3, k3⟩, gs, ⟨D4, d4, k4⟩⟩ : StL).v) (g := (⟨gf, gt, ga, gs_, ⟨mk, mo, mn, mu, mv⟩⟩ : Gm)) HG.out (by rw [← HT2.out])
      have hcm := (gram_open b1 b2).1.1
      have hga : 0 ≤ ga ∧ ga ≤ 1099511627776 := ⟨hcm.2.2.2.2.2.1, hcm.2.2.2.2.2.2.1⟩
      have hgs : 0 ≤ gs_ ∧ gs_ ≤ 1099511627776 := ⟨hcm.2.2.2.2.2.2.2.1, hcm.2.2.2.2.2.2.2.2.1⟩
      have hv : (⟨me2, os2, ⟨F1, f1, j1⟩, es2, ⟨F2, f2, j2⟩, q2, as2, ⟨F3, f3, j3⟩, gs2, ⟨F4, f4, j4⟩⟩ : StL).v = (gramS ps (⟨me, os, ⟨D1, d1, k1⟩, es, ⟨D2, d2, k2⟩, q, as_, ⟨D3, d3, k3⟩, gs, ⟨D4, d4, k4⟩⟩ : StL).v (⟨gf, gt, ga, gs_, ⟨mk, mo, mn, mu, mv⟩⟩ : Gm)).1 := by rw [HV2.out, ← b3, ← HT2.out]
      have HOld : Hid (∀ (i : Nat) (r : SdL), es[i]? = some r → r.v.p = gf → ¬ (r.v.News ga ∨ (0 < gs_ ∧ gs_ - 1 = r.v.s)) → (⟨me2, os2, ⟨F1, f1, j1⟩, es2, ⟨F2, f2, j2⟩, q2, as2, ⟨F3, f3, j3⟩, gs2, ⟨F4, f4, j4⟩⟩ : StL).v = (⟨me, os, ⟨D1, d1, k1⟩, es, ⟨D2, d2, k2⟩, q, as_, ⟨D3, d3, k3⟩, gs, ⟨D4, d4, k4⟩⟩ : StL).v) := Lib.hid (fun i r hr hp hn => by
        have q1 : sideA (⟨me, os, ⟨D1, d1, k1⟩, es, ⟨D2, d2, k2⟩, q, as_, ⟨D3, d3, k3⟩, gs, ⟨D4, d4, k4⟩⟩ : StL).v i = r.v := sideA_vo hr
        rw [hv]
        refine gram_old b1 b2 (j := i) (by show i < (es.map (·.v)).length; rw [List.length_map]; exact (List.getElem?_eq_some_iff.1 hr).1) (by rw [q1]; exact hp) ?_
        rw [q1]; exact hn)
      have HBd : Hid (∀ (i : Nat) (r : SdL), es[i]? = some r → 0 ≤ r.v.b ∧ r.v.b + (r.v.o.length : Int) ≤ 1099511627776) := Lib.hid (fun i r hr => by
        have k := (b1.es r.v (List.mem_map.2 ⟨r, List.mem_of_getElem? hr, rfl⟩)).1
        exact ⟨k.2.2.1, k.2.2.2.2.2.2.1⟩)
      have HSa := Lib.hid (fun (hq : (⟨me2, os2, ⟨F1, f1, j1⟩, es2, ⟨F2, f2, j2⟩, q2, as2, ⟨F3, f3, j3⟩, gs2, ⟨F4, f4, j4⟩⟩ : StL).v = (⟨me, os, ⟨D1, d1, k1⟩, es, ⟨D2, d2, k2⟩, q, as_, ⟨D3, d3, k3⟩, gs, ⟨D4, d4, k4⟩⟩ : StL).v) W (hW : Below w8.heap.size w8 W) => (refsames_any (⟨me2, os2, ⟨F1, f1, j1⟩, es2, ⟨F2, f2, j2⟩, q2, as2, ⟨F3, f3, j3⟩, gs2, ⟨F4, f4, j4⟩⟩ : StL) (⟨me, os, ⟨D1, d1, k1⟩, es, ⟨D2, d2, k2⟩, q, as_, ⟨D3, d3, k3⟩, gs, ⟨D4, d4, k4⟩⟩ : StL) W (HS2.out W hW) (HS1.out W hW)).mono fun e w' h => (show e = .returned (.bool true) ∧ Below W.heap.size W w' from ⟨by rw [h.1, decide_eq_true hq], h.2⟩))
      obtain ⟨t3, n3, ht3⟩ : ∃ t3 n3, applyS ps (⟨me2, os2, ⟨F1, f1, j1⟩, es2, ⟨F2, f2, j2⟩, q2, as2, ⟨F3, f3, j3⟩, gs2, ⟨F4, f4, j4⟩⟩ : StL).v (evG (⟨gf, gt, ga, gs_, ⟨mk, mo, mn, mu, mv⟩⟩ : Gm)) = (t3, n3, 0) := ⟨_, _, by
        rw [← hv] at b4
        exact Prod.ext rfl (Prod.ext rfl b4)⟩
      have HAp2 := Lib.hid (fun W (hW : Below w8.heap.size w8 W) => HAp9.out (⟨me2, os2, ⟨F1, f1, j1⟩, es2, ⟨F2, f2, j2⟩, q2, as2, ⟨F3, f3, j3⟩, gs2, ⟨F4, f4, j4⟩⟩ : StL) W (HD8.out.trans (hW.mono HD8.out.size)) (HS2.out W hW))
      rw [ht3] at HAp2
      have HTw : Hid ((∀ (j : Nat) (r : SdL), es[j]? = some r → r.v.p = gf → ga ≤ r.v.b + (r.v.o.length : Int)) → t3 = (⟨me2, os2, ⟨F1, f1, j1⟩, es2, ⟨F2, f2, j2⟩, q2, as2, ⟨F3, f3, j3⟩, gs2, ⟨F4, f4, j4⟩⟩ : StL).v) := Lib.hid (fun hall => by
        have h2 := (gram_twice HG.out b1 b2).2 (fun j hj hp => by
          have hj : j < (es.map (·.v)).length := hj
          rw [List.length_map] at hj
          have q1 : sideA (⟨me, os, ⟨D1, d1, k1⟩, es, ⟨D2, d2, k2⟩, q, as_, ⟨D3, d3, k3⟩, gs, ⟨D4, d4, k4⟩⟩ : StL).v j = es[j].v := sideA_vo (List.getElem?_eq_getElem hj)
          rw [q1] at hp ⊢
          exact hall j _ (List.getElem?_eq_getElem hj) hp)
        rw [← hv] at b5 h2
        rw [ht3] at b5
        exact b5.trans h2)
      have hfew : d2 * 48 ≤ 140737488351232 := (HS1.out w8 (Below.refl _ _)).es.few
      have HLe : Hid (es.length = d2) := Lib.hid (HS1.out w8 (Below.refl _ _)).es.len
      simp only [StL.val, Sl.val, Ev.val, evG] at HSa HAp2
      clear b1 b2 b3 b4 b5 hcm hv ht3 HT2 HAp9 HV2 HD5 HD6
      go_wp2_with fail
      go_loopw [47] (fun j wr => ∃ i : Nat, j = .int .i64 i ∧ i ≤ d2 ∧ Below w8.heap.size w8 wr) (fun j _ => d2 - (intOf j).toNat)
      case atStart => exact ⟨0, rfl, by omega, Below.refl _ _⟩
      case round =>
        obtain ⟨i, rfl, hi, hb⟩ := hrel
        obtain ⟨w9, rfl⟩ : ∃ w1 : World, w1 = wr := ⟨_, rfl⟩
        have HB9 := Lib.hid hb
        clear hb x0 x1 x2 x3 x4 x5 y0 y1 y2 y3 y4 y5 y6 y7 y8
        by_cases hlt : i < d2
        · obtain ⟨b, off, eb, _, hc⟩ := sdR.spots (HS1.out w9 HB9.out).es.rd (show 0 < d2 by omega)
          subst eb
          have hil : i < es.length := by rw [HLe.out]; exact hlt
          have hg : es[i]? = some es[i] := List.getElem?_eq_getElem hil
          obtain ⟨r, hr⟩ : ∃ r, r = es[i] := ⟨_, rfl⟩
          rw [← hr] at hg
          obtain ⟨hb1, hb2⟩ := HBd.out i r hg
          have ho1 := ((HS1.out w9 HB9.out).e r (List.mem_of_getElem? hg)).o.len
          have hold := HOld.out i r hg
          have m0 := hc i r hg 0 _ rfl
          have m1 := hc i r hg 1 _ rfl
          have m2 := hc i r hg 2 _ rfl
          have m3 := hc i r hg 3 _ rfl
          obtain ⟨⟨rp, rb, ro, rs⟩, ⟨A5, n5, c5⟩⟩ := r
          simp only [sdR, Nat.add_zero, Sl.val, ← Nat.add_assoc, Hf.News] at m0 m1 m2 m3 hb1 hb2 ho1 hold
          rw [ho1] at hb2 hold
          have HB10 : Hid (Below w8.heap.size w8 (w9.alloc (.cells #[.int .i64 rp, .int .i64 rb, .slice A5 n5 c5, .int .i64 rs] 50))) := Lib.hid (HB9.out.alloc HB9.out.size _)
          obtain ⟨x0, x1, x2, x3, x4, x5, y0, y1, y2, y3, y4, y5, y6, y7, y8⟩ := HX8.out _ HB10.out
          obtain ⟨z0, z1, z2, z3, z4, z5⟩ := HZ.out _ HB10.out
          clear hc hr hg ho1
          by_cases hp : rp = gf
          · have t1 : (rp == gf) = true := by simpa using hp
            have t2 : (rp != gf) = false := by simpa using hp
            have hold := fun h => HSa.out (hold hp h) _ HB10.out
            by_cases N1 : rb < ga
            · by_cases N2 : ga - rb ≤ (n5 : Int)
              · clear hold hp
                go_wp2
                go_roundw
                case rel => exact ⟨i + 1, by go_num, by omega, HB10.out⟩
                case measure => simp [intOf]; omega
              · by_cases S1 : 0 < gs_
                · by_cases S2 : gs_ - 1 = rs
                  · have t4 : (gs_ - 1 == rs) = true := by simpa using S2
                    clear hold hp
                    go_wp2
                    go_roundw
                    case rel => exact ⟨i + 1, by go_num, by omega, HB10.out⟩
                    case measure => simp [intOf]; omega
                  · have t4 : (gs_ - 1 == rs) = false := by simpa using S2
                    have HC := Lib.hid (hold (by omega))
                    clear hold hp
                    go_wp2_with fail
                    refine HC.out.mono ?_
                    rintro e w10 ⟨rfl, hb⟩
                    have HB11 := Lib.hid (HB10.out.trans (hb.mono HB10.out.size))
                    clear hb HC
                    go_wp2
                    go_roundw
                    case rel => exact ⟨i + 1, by go_num, by omega, HB11.out⟩
                    case measure => simp [intOf]; omega
                · have HC := Lib.hid (hold (by omega))
                  clear hold hp
                  go_wp2_with fail
                  refine HC.out.mono ?_
                  rintro e w10 ⟨rfl, hb⟩
                  have HB11 := Lib.hid (HB10.out.trans (hb.mono HB10.out.size))
                  clear hb HC
                  go_wp2
                  go_roundw
                  case rel => exact ⟨i + 1, by go_num, by omega, HB11.out⟩
                  case measure => simp [intOf]; omega
            · by_cases S1 : 0 < gs_
              · by_cases S2 : gs_ - 1 = rs
                · have t4 : (gs_ - 1 == rs) = true := by simpa using S2
                  clear hold hp
                  go_wp2
                  go_roundw
                  case rel => exact ⟨i + 1, by go_num, by omega, HB10.out⟩
                  case measure => simp [intOf]; omega
                · have t4 : (gs_ - 1 == rs) = false := by simpa using S2
                  have HC := Lib.hid (hold (by omega))
                  clear hold hp
                  go_wp2_with fail
                  refine HC.out.mono ?_
                  rintro e w10 ⟨rfl, hb⟩
                  have HB11 := Lib.hid (HB10.out.trans (hb.mono HB10.out.size))
                  clear hb HC
                  go_wp2
                  go_roundw
                  case rel => exact ⟨i + 1, by go_num, by omega, HB11.out⟩
                  case measure => simp [intOf]; omega
              · have HC := Lib.hid (hold (by omega))
                clear hold hp
                go_wp2_with fail
                refine HC.out.mono ?_
                rintro e w10 ⟨rfl, hb⟩
                have HB11 := Lib.hid (HB10.out.trans (hb.mono HB10.out.size))
                clear hb HC
                go_wp2
                go_roundw
                case rel => exact ⟨i + 1, by go_num, by omega, HB11.out⟩
                case measure => simp [intOf]; omega
          · have t1 : (rp == gf) = false := by simpa using hp
            have t2 : (rp != gf) = true := by simpa using hp
            clear hold hp
            go_wp2
            go_roundw
            case rel => exact ⟨i + 1, by go_num, by omega, HB10.out⟩
            case measure => simp [intOf]; omega
        · obtain ⟨x0, x1, x2, x3, x4, x5, y0, y1, y2, y3, y4, y5, y6, y7, y8⟩ := HX8.out w9 HB9.out
          obtain ⟨z0, z1, z2, z3, z4, z5⟩ := HZ.out w9 HB9.out
          obtain ⟨v0, v1, v2, v3, v4, v5, v6, v7, v8, v9, v10⟩ := HV8.out w9 HB9.out
          have HC := Lib.hid (HAp2.out w9 HB9.out)
          clear HAp2 HOld
          go_wp2_with fail
          refine HC.out.mono ?_
          rintro e w10 ⟨s3, rfl, hv3, hi3, hb⟩
          rename_i K1 hK1 K2 hK2
          have HK1 := Lib.hid hK1
          clear hK1
          have HB10 := Lib.hid (HB9.out.trans (hb.mono HB9.out.size))
          obtain ⟨pb, hpb⟩ : ∃ k, k = w10.heap.size := ⟨_, rfl⟩
          obtain ⟨w11, hw11⟩ : ∃ V, V = w10.alloc (.cells s3.val.cells 28) := ⟨_, rfl⟩
          have hb11 : Below w10.heap.size w10 w11 := hw11 ▸ (Below.refl _ _).alloc (Nat.le_refl _) _
          have HB11 := Lib.hid (HB10.out.trans (hb11.mono HB10.out.size))
          have HI3 := Lib.hid (hi3.next hb11)
          have HKb : Hid (Blk w11 pb 28 s3.val.cells) := Lib.hid (by rw [hw11, hpb]; exact Blk.new w10 _ _)
          have hv3 : s3.v = t3 := hv3
          have HSb := Lib.hid (fun (hq : t3 = (⟨me2, os2, ⟨F1, f1, j1⟩, es2, ⟨F2, f2, j2⟩, q2, as2, ⟨F3, f3, j3⟩, gs2, ⟨F4, f4, j4⟩⟩ : StL).v) W (hW : Below w11.heap.size w11 W) => (refsames_any (⟨me2, os2, ⟨F1, f1, j1⟩, es2, ⟨F2, f2, j2⟩, q2, as2, ⟨F3, f3, j3⟩, gs2, ⟨F4, f4, j4⟩⟩ : StL) s3 W (HS2.out W (HB11.out.trans (hW.mono HB11.out.size))) (HI3.out.next hW)).mono fun e w' h => (show e = .returned (.bool true) ∧ Below W.heap.size W w' from ⟨by rw [h.1, decide_eq_true (hq.symm.trans hv3.symm)], h.2⟩))
          clear hb hv3 hi3 hb11 HC x0 x1 x2 x3 x4 x5 y0 y1 y2 y3 y4 y5 y6 y7 y8 z0 z1 z2 z3 z4 z5 v0 v1 v2 v3 v4 v5 v6 v7 v8 v9 v10
          obtain ⟨me3, os3, ⟨H1, h1_, i1⟩, es3, ⟨H2, h2_, i2⟩, q3, as3, ⟨H3, h3_, i3⟩, gs3, ⟨H4, h4_, i4⟩⟩ := s3
          simp only [StL.val, Sl.val, Value.cells] at HKb HSb hw11 ⊢
          have HZb : Hid (∀ W, Below w11.heap.size w11 W → W.cell? ⟨pb, 0, none⟩ = some (.int .i64 me3) ∧ W.cell? ⟨pb, 1, none⟩ = some (.slice H1 h1_ i1) ∧ W.cell? ⟨pb, 2, none⟩ = some (.slice H2 h2_ i2) ∧ W.cell? ⟨pb, 3, none⟩ = some (.int .i64 q3) ∧ W.cell? ⟨pb, 4, none⟩ = some (.slice H3 h3_ i3) ∧ W.cell? ⟨pb, 5, none⟩ = some (.slice H4 h4_ i4)) := Lib.hid (fun W hW => by
            have h1 := HKb.out.below hW HKb.out.lt
            exact ⟨h1.cell 0, h1.cell 1, h1.cell 2, h1.cell 3, h1.cell 4, h1.cell 5⟩)
          have HX11 : Hid (∀ W, Below w11.heap.size w11 W → W.cell? ⟨p, 0, none⟩ = some (.int .i64 me) ∧ W.cell? ⟨p, 1, none⟩ = some (.slice D1 d1 k1) ∧ W.cell? ⟨p, 2, none⟩ = some (.slice D2 d2 k2) ∧ W.cell? ⟨p, 3, none⟩ = some (.int .i64 q) ∧ W.cell? ⟨p, 4, none⟩ = some (.slice D3 d3 k3) ∧ W.cell? ⟨p, 5, none⟩ = some (.slice D4 d4 k4) ∧ W.cell? ⟨pe, 0, none⟩ = some (.int .i64 gf) ∧ W.cell? ⟨pe, 1, none⟩ = some (.int .i64 gt) ∧ W.cell? ⟨pe, 2, none⟩ = some (.int .i64 ga) ∧ W.cell? ⟨pe, 3, none⟩ = some (.int .i64 gs_) ∧ W.cell? ⟨pe, 4, none⟩ = some (.int .i64 mk) ∧ W.cell? ⟨pe, 5, none⟩ = some (.int .i64 mo) ∧ W.cell? ⟨pe, 6, none⟩ = some (.int .i64 mn) ∧ W.cell? ⟨pe, 7, none⟩ = some (.int .i64 mu) ∧ W.cell? ⟨pe, 8, none⟩ = some (.int .i64 mv)) := Lib.hid (fun W hW => HX8.out W (HB11.out.trans (hW.mono HB11.out.size)))
          have HZ11 : Hid (∀ W, Below w11.heap.size w11 W → W.cell? ⟨pa, 0, none⟩ = some (.int .i64 me2) ∧ W.cell? ⟨pa, 1, none⟩ = some (.slice F1 f1 j1) ∧ W.cell? ⟨pa, 2, none⟩ = some (.slice F2 f2 j2) ∧ W.cell? ⟨pa, 3, none⟩ = some (.int .i64 q2) ∧ W.cell? ⟨pa, 4, none⟩ = some (.slice F3 f3 j3) ∧ W.cell? ⟨pa, 5, none⟩ = some (.slice F4 f4 j4)) := Lib.hid (fun W hW => HZ.out W (HB11.out.trans (hW.mono HB11.out.size)))
          have HS11 := Lib.hid (fun W (hW : Below w11.heap.size w11 W) => HS1.out W (HB11.out.trans (hW.mono HB11.out.size)))
          have HEnd : Hid (∀ W, Below w11.heap.size w11 W → Below w.heap.size w W) := Lib.hid (fun W hW => HB1.out.trans ((HTr.out (HTr.out HB8.out HB11.out) hW).mono HB1.out.size))
          clear HKb HX8 HZ HV8 HS1 HS2 HSa HI3 HB9 HB10
          obtain ⟨x0, x1, x2, x3, x4, x5, y0, y1, y2, y3, y4, y5, y6, y7, y8⟩ := HX11.out w11 (Below.refl _ _)
          try dsimp only
          go_wp2_with fail
          rw [← hw11, ← hpb]
          clear hw11 hpb
          refine HK1.out _ _ ?_
          clear HK1
          by_cases hN : (1099511625776 : Int) < ga
          · go_wp2
            go_ret
            exact ⟨rfl, HEnd.out w11 (Below.refl _ _)⟩
          · go_wp2_with fail
            go_loopw [114] (fun j wr => ∃ i : Nat, j = .int .i64 i ∧ i ≤ d2 ∧ (∀ (j : Nat) (r : SdL), j < i → es[j]? = some r → r.v.p = gf → ga ≤ r.v.b + (r.v.o.length : Int)) ∧ Below w11.heap.size w11 wr) (fun j _ => d2 - (intOf j).toNat)
            case atStart => exact ⟨0, rfl, by omega, fun j r hj => by omega, Below.refl _ _⟩
            case round =>
              obtain ⟨i, rfl, hi, hall, hb⟩ := hrel
              obtain ⟨w12, rfl⟩ : ∃ w1 : World, w1 = wr := ⟨_, rfl⟩
              have HB12 := Lib.hid hb
              have HAll := Lib.hid hall
              clear hb hall x0 x1 x2 x3 x4 x5 y0 y1 y2 y3 y4 y5 y6 y7 y8
              by_cases hlt : i < d2
              · obtain ⟨b, off, eb, _, hc⟩ := sdR.spots (HS11.out w12 HB12.out).es.rd (show 0 < d2 by omega)
                subst eb
                have hil : i < es.length := by rw [HLe.out]; exact hlt
                have hg : es[i]? = some es[i] := List.getElem?_eq_getElem hil
                obtain ⟨r, hr⟩ : ∃ r, r = es[i] := ⟨_, rfl⟩
                rw [← hr] at hg
                obtain ⟨hb1, hb2⟩ := HBd.out i r hg
                have ho1 := ((HS11.out w12 HB12.out).e r (List.mem_of_getElem? hg)).o.len
                have HNx : Hid ((r.v.p = gf → ga ≤ r.v.b + (r.v.o.length : Int)) → ∀ (j : Nat) (r : SdL), j < i + 1 → es[j]? = some r → r.v.p = gf → ga ≤ r.v.b + (r.v.o.length : Int)) := Lib.hid (fun h j r' hj hr' => by
                  by_cases hji : j = i
                  · subst hji
                    rw [hg] at hr'
                    cases hr'
                    exact h
                  · exact HAll.out j r' (by omega) hr')
                have m0 := hc i r hg 0 _ rfl
                have m1 := hc i r hg 1 _ rfl
                have m2 := hc i r hg 2 _ rfl
                have m3 := hc i r hg 3 _ rfl
                obtain ⟨⟨rp, rb, ro, rs⟩, ⟨A5, n5, c5⟩⟩ := r
                simp only [sdR, Nat.add_zero, Sl.val, ← Nat.add_assoc] at m0 m1 m2 m3 hb1 hb2 ho1 HNx
                rw [ho1] at hb2 HNx
                have HB13 : Hid (Below w11.heap.size w11 (w12.alloc (.cells #[.int .i64 rp, .int .i64 rb, .slice A5 n5 c5, .int .i64 rs] 50))) := Lib.hid (HB12.out.alloc HB12.out.size _)
                obtain ⟨x0, x1, x2, x3, x4, x5, y0, y1, y2, y3, y4, y5, y6, y7, y8⟩ := HX11.out _ HB13.out
                clear hc hr hg ho1 HAll
                by_cases hp : rp = gf
                · have t1 : (rp == gf) = true := by simpa using hp
                  by_cases hM : rb + (n5 : Int) < ga
                  · clear HNx hp
                    go_wp2
                    go_ret
                    exact ⟨rfl, HEnd.out _ HB13.out⟩
                  · have HN2 := Lib.hid (HNx.out (fun _ => by omega))
                    clear HNx hp
                    go_wp2
                    go_roundw
                    case rel => exact ⟨i + 1, by go_num, by omega, HN2.out, HB13.out⟩
                    case measure => simp [intOf]; omega
                · have t1 : (rp == gf) = false := by simpa using hp
                  have HN2 := Lib.hid (HNx.out (fun h => absurd h hp))
                  clear HNx hp
                  go_wp2
                  go_roundw
                  case rel => exact ⟨i + 1, by go_num, by omega, HN2.out, HB13.out⟩
                  case measure => simp [intOf]; omega
              · have hq := HTw.out (fun j r hr hp => HAll.out j r (by have h := (List.getElem?_eq_some_iff.1 hr).1; rw [HLe.out] at h; omega) hr hp)
                have HC := Lib.hid (HSb.out hq w12 HB12.out)
                obtain ⟨x0, x1, x2, x3, x4, x5, y0, y1, y2, y3, y4, y5, y6, y7, y8⟩ := HX11.out _ HB12.out
                obtain ⟨z0, z1, z2, z3, z4, z5⟩ := HZ11.out _ HB12.out
                obtain ⟨u0, u1, u2, u3, u4, u5⟩ := HZb.out _ HB12.out
                clear hq HAll HSb HTw
                go_wp2_with fail
                refine HC.out.mono ?_
                rintro e w13 ⟨rfl, hb⟩
                have HB13 := Lib.hid (HB12.out.trans (hb.mono HB12.out.size))
                clear hb HC
                go_wp2
                go_ret
                exact ⟨rfl, HEnd.out _ HB13.out⟩
    · go_wp2
      go_ret
      exact ⟨rfl, HB1.out.trans (HB5.out.mono HB1.out.size)⟩
  · have t1 : (er == 0) = false := by simpa using her
    have t2 : (er != 0) = true := by simpa using her
    have HB4 := Lib.hid (HB3w.out.trans (hb4.mono HB3w.out.size))
    clear hb4 hch her
    go_wp2
    go_ret
    exact ⟨rfl, HB4.out⟩
end Go.Proofs.Ytiaafhcfeeekeaa.Pk
