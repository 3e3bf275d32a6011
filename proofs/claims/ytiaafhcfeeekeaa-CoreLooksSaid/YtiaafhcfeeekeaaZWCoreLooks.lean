/- The walk of the law CoreLooks. -/
import Derived.Test.YtiaafhcfeeekeaaZCoLose
import Derived.Test.YtiaafhcfeeekeaaZChFacts
import Derived.Test.YtiaafhcfeeekeaaZCoSend
import Derived.Deep.RegionHeld3
import Derived.Deep.DeepMust
namespace Go.Proofs.Ytiaafhcfeeekeaa.Pk
open Go.RowKit Go.Proofs.Ytiaafhcfeeekeaa.Gr Go.Proofs.Ytiaafhcfeeekeaa.Ar
set_option linter.unusedVariables false
/-- A locate, or a datagram that says nothing, seeks or tells. -/
def LooksE (ev : Ev) : Prop := ev.k = 3 ∨ (ev.k = 4 ∧ (ev.g.s = 0 ∨ ev.g.m.k = 3 ∨ ev.g.m.k = 4))
theorem looks_cases (ev : Ev) : ((ev.k == 3) = true ∧ LooksE ev) ∨ ((ev.k == 3) = false ∧ (ev.k == 4) = true ∧ (ev.g.s == 0) = true ∧ LooksE ev) ∨ ((ev.k == 3) = false ∧ (ev.k == 4) = true ∧ (ev.g.s == 0) = false ∧ (ev.g.m.k == 3) = true ∧ LooksE ev) ∨
    ((ev.k == 3) = false ∧ (ev.k == 4) = true ∧ (ev.g.s == 0) = false ∧ (ev.g.m.k == 3) = false ∧ (ev.g.m.k == 4) = true ∧ LooksE ev) ∨ ((ev.k == 3) = false ∧ (ev.k == 4) = true ∧ (ev.g.s == 0) = false ∧ (ev.g.m.k == 3) = false ∧ (ev.g.m.k == 4) = false) ∨ ((ev.k == 3) = false ∧ (ev.k == 4) = false) := by
  unfold LooksE
  simp only [beq_iff_eq, beq_eq_false_iff_ne]
  omega
set_option maxRecDepth 100000 in
set_option maxHeartbeats 8000000 in
theorem law_CoreLooks (HFi : StFirstP) (HAp : CoApplyP) (A : Option Addr) (n c : Nat) (ps : List Int) (s : StL) (ev : Ev) (w : World) (hk : ArgN w A n c ps) (hs : InS w s) (he : ev.I) :
    Calls Try.prog 5 #[.slice A n c, s.val, ev.val] w fun e w' => e = .returned (.bool true) ∧ Below w.heap.size w w' := by
  have HW := Lib.hid (fun w => wakesC HFi HAp w)
  have HRd := Lib.hid hk.1
  have hn : n ≤ 4611686018427387904 := by have h1 := hk.2.1; have h2 := hk.2.2.1; omega
  have HI := Lib.hid hs
  have HE := Lib.hid he
  have HAp := Lib.hid HAp
  clear hk hs he
  obtain ⟨p, hp⟩ : ∃ p, p = w.heap.size := ⟨_, rfl⟩
  obtain ⟨pe, hpe⟩ : ∃ x, x = p + 1 := ⟨_, rfl⟩
  obtain ⟨wa, hwa⟩ : ∃ wa, wa = w.alloc (.cells s.val.cells 28) := ⟨_, rfl⟩
  obtain ⟨W1, hW1⟩ : ∃ W1, W1 = wa.alloc (.cells ev.val.cells 34) := ⟨_, rfl⟩
  have hsa : wa.heap.size = p + 1 := by rw [hwa, World.size_alloc, hp]
  have hba : Below w.heap.size w wa := hwa ▸ (Below.refl _ _).alloc (Nat.le_refl _) _
  have HB1 : Hid (Below w.heap.size w W1) := Lib.hid (hW1 ▸ hba.alloc (by omega) _)
  have HKp : Hid (Blk W1 p 28 s.val.cells) := Lib.hid (by rw [hW1, hwa, hp]; exact (Blk.new w _ _).alloc _)
  have HKt : Hid (Blk W1 pe 34 ev.val.cells) := Lib.hid (by rw [hW1, hpe, ← hsa]; exact Blk.new wa _ _)
  have tr : ∀ {W w' : World}, Below W1.heap.size W1 W → Below W.heap.size W w' → Below W1.heap.size W1 w' := fun h k => h.trans (k.mono h.size)
  have HTr : Hid (∀ {W w' : World}, Below W1.heap.size W1 W → Below W.heap.size W w' → Below W1.heap.size W1 w') := Lib.hid tr
  have HIW := Lib.hid (fun W (hW : Below W1.heap.size W1 W) => HI.out.next (HB1.out.trans (hW.mono HB1.out.size)))
  have HWa : Hid (∀ W, Below W1.heap.size W1 W → Calls Try.prog 10 #[] W fun e w' => e = .returned (.bool true) ∧ Below W1.heap.size W1 w') := Lib.hid (fun W hW => (HW.out W).mono fun e w' h => ⟨h.1, tr hW h.2⟩)
  have HHv : Hid (∀ W, Below W1.heap.size W1 W → Calls Try.prog 12 #[s.val] W fun e w' => IsBool e ∧ Below W.heap.size W w') := Lib.hid (fun W hW => heavy_any s W (HIW.out W hW))
  obtain ⟨⟨t2, n2, e2⟩, ht2⟩ : ∃ x, x = applyS ps s.v ev := ⟨_, rfl⟩
  have HT2 := Lib.hid ht2
  have HAp9 : Hid (∀ (T g : Nat) (W0 : World), Below W1.heap.size W1 W0 → IsTr W0 T g ps → Gr.Good ps → ∀ W, Below W0.heap.size W0 W → Calls Try.prog 13 #[.pointer (some ⟨T, 0, none⟩), s.val, ev.val] W fun e w' => ∃ s2 : StL, e = .returned (.tuple #[s2.val, .int .i64 n2, .int .i64 e2]) ∧ s2.v = t2 ∧ OwnX w' W.heap.size s2 ∧ InS w' s2 ∧ Below W.heap.size W w' ∧ Below W1.heap.size W1 w') := Lib.hid (fun T g W0 h0 ht G W hW => (HAp.out T g ps s ev W (ht.below_ hW) G (HIW.out W (tr h0 hW)) HE.out).mono fun e w' ⟨s2, h1, h2, h3, h4⟩ => ⟨s2, by rw [h1, ← HT2.out], by rw [h2, ← HT2.out], h3, h3.few (by rw [h2]; exact applyS_few G), h4, tr (tr h0 hW) h4⟩)
  clear tr HAp HE HW ht2 HI
  obtain ⟨me, os, ⟨D1, d1, k1⟩, es, ⟨D2, d2, k2⟩, q, as_, ⟨D3, d3, k3⟩, gs, ⟨D4, d4, k4⟩⟩ := s
  obtain ⟨ek, eo, ⟨gf, gt, ga, gs_, ⟨mk, mo, mn, mu, mv⟩⟩⟩ := ev
  simp only [StL.val, Sl.val, Ev.val, Value.cells] at HKp HKt HHv HAp9 hwa hW1 ⊢
  have HX : Hid (∀ W, Below W1.heap.size W1 W → W.cell? ⟨p, 0, none⟩ = some (.int .i64 me) ∧ W.cell? ⟨p, 1, none⟩ = some (.slice D1 d1 k1) ∧ W.cell? ⟨p, 2, none⟩ = some (.slice D2 d2 k2) ∧ W.cell? ⟨p, 3, none⟩ = some (.int .i64 q) ∧ W.cell? ⟨p, 4, none⟩ = some (.slice D3 d3 k3) ∧ W.cell? ⟨p, 5, none⟩ = some (.slice D4 d4 k4) ∧ W.cell? ⟨pe, 0, none⟩ = some (.int .i64 ek) ∧ W.cell? ⟨pe, 1, none⟩ = some (.int .i64 eo) ∧ W.cell? ⟨pe, 2, none⟩ = some (.int .i64 gf) ∧ W.cell? ⟨pe, 3, none⟩ = some (.int .i64 gt) ∧ W.cell? ⟨pe, 4, none⟩ = some (.int .i64 ga) ∧ W.cell? ⟨pe, 5, none⟩ = some (.int .i64 gs_) ∧ W.cell? ⟨pe, 6, none⟩ = some (.int .i64 mk) ∧ W.cell? ⟨pe, 7, none⟩ = some (.int .i64 mo) ∧ W.cell? ⟨pe, 8, none⟩ = some (.int .i64 mn) ∧ W.cell? ⟨pe, 9, none⟩ = some (.int .i64 mu) ∧ W.cell? ⟨pe, 10, none⟩ = some (.int .i64 mv)) := Lib.hid (fun W hW => by
    have h1 := HKp.out.below hW HKp.out.lt
    have h2 := HKt.out.below hW HKt.out.lt
    exact ⟨h1.cell 0, h1.cell 1, h1.cell 2, h1.cell 3, h1.cell 4, h1.cell 5, h2.cell 0, h2.cell 1, h2.cell 2, h2.cell 3, h2.cell 4, h2.cell 5, h2.cell 6, h2.cell 7, h2.cell 8, h2.cell 9, h2.cell 10⟩)
  go_enter Try.func5, Try.ntmps5
  go_wp2_with fail
  rw [← hwa, ← hW1]
  clear hwa hba hsa
  refine (HWa.out _ (Below.refl _ _)).mono ?_
  rintro e w3 ⟨rfl, hb⟩
  have HB3 := Lib.hid hb
  have HB3w := Lib.hid (HB1.out.trans (HB3.out.mono HB1.out.size))
  have HN := Lib.hid (new_any A n c ps w3 w.heap.size (HRd.out.below HB3w.out) HB3w.out.size hn)
  clear hb hW1
  rw [← hp, ← hpe]
  clear hp hpe
  go_wp2_with fail
  refine HN.out.mono ?_
  rintro e w4 ⟨hb4, ⟨T, g, rfl, hch, ht, hT, hg, hTg⟩ | ⟨u, er, rfl, hch, her⟩⟩
  · have hG := hch.good.1
    have HG := Lib.hid hG
    have HB4 : Hid (Below W1.heap.size W1 w4) := Lib.hid (HB3.out.trans (hb4.mono HB3.out.size))
    have HAp9 := Lib.hid (HAp9.out T g w4 HB4.out ht hG)
    obtain ⟨x0, x1, x2, x3, x4, x5, y0, y1, y2, y3, y4, y5, y6, y7, y8, y9, y10⟩ := HX.out w4 HB4.out
    clear hb4 hch ht hT hg hTg HN hG HWa HRd HB3 HB3w
    go_wp2_with fail
    refine (HHv.out _ HB4.out).mono ?_
    rintro e w5 ⟨⟨b, rfl⟩, hb⟩
    have HB5 := Lib.hid (HTr.out HB4.out hb)
    have HD5 := Lib.hid hb
    clear hb x0 x1 x2 x3 x4 x5 y0 y1 y2 y3 y4 y5 y6 y7 y8 y9 y10 HHv
    cases b
    · obtain ⟨x0, x1, x2, x3, x4, x5, y0, y1, y2, y3, y4, y5, y6, y7, y8, y9, y10⟩ := HX.out w5 HB5.out
      have HL : Hid (LooksE (⟨ek, eo, ⟨gf, gt, ga, gs_, ⟨mk, mo, mn, mu, mv⟩⟩⟩ : Ev) → e2 = 0 → t2.os = (⟨me, os, ⟨D1, d1, k1⟩, es, ⟨D2, d2, k2⟩, q, as_, ⟨D3, d3, k3⟩, gs, ⟨D4, d4, k4⟩⟩ : StL).v.os) := Lib.hid (fun hl h0 => by
        have e := HT2.out
        have h9 : (applyS ps (⟨me, os, ⟨D1, d1, k1⟩, es, ⟨D2, d2, k2⟩, q, as_, ⟨D3, d3, k3⟩, gs, ⟨D4, d4, k4⟩⟩ : StL).v (⟨ek, eo, ⟨gf, gt, ga, gs_, ⟨mk, mo, mn, mu, mv⟩⟩⟩ : Ev)).2.2 = 0 := by rw [← e]; exact h0
        obtain ⟨a1, a2, a3⟩ := applyS_zero h9
        have h8 := step_looks a2 hl
        rw [a3] at e
        rw [← h8, ← e])
      clear HT2
      rcases looks_cases (⟨ek, eo, ⟨gf, gt, ga, gs_, ⟨mk, mo, mn, mu, mv⟩⟩⟩ : Ev) with ⟨s1, hl⟩ | ⟨s1, s2, s3, hl⟩ | ⟨s1, s2, s3, s4, hl⟩ | ⟨s1, s2, s3, s4, s5, hl⟩ | ⟨s1, s2, s3, s4, s5⟩ | ⟨s1, s2⟩
      all_goals dsimp only at s1
      rotate_left 4
      iterate 2
        · go_wp2_with fail
          refine (HAp9.out w5 HD5.out).mono ?_
          rintro e w6 ⟨s2, rfl, hv2, ho2, hi2, hb, hb6⟩
          have HB6 := Lib.hid hb6
          have HB7 := Lib.hid (HB6.out.alloc HB6.out.size (.cells s2.val.cells 28))
          clear hb hb6 hv2 ho2 hi2
          go_wp2
          go_ret
          exact ⟨rfl, HB1.out.trans (HB7.out.mono HB1.out.size)⟩
      all_goals
        have HL := Lib.hid (HL.out hl)
        clear hl
        go_wp2_with fail
        refine (HAp9.out w5 HD5.out).mono ?_
        rintro e w6 ⟨s2, rfl, hv2, ho2, hi2, hb, hb6⟩
        rename_i K1 hK1 K2 hK2
        have HK1 := Lib.hid hK1
        clear hK1
        have HB6 := Lib.hid hb6
        obtain ⟨pa, hpa⟩ : ∃ k, k = w6.heap.size := ⟨_, rfl⟩
        obtain ⟨w7, hw7⟩ : ∃ V, V = w6.alloc (.cells s2.val.cells 28) := ⟨_, rfl⟩
        have hb67 : Below w6.heap.size w6 w7 := hw7 ▸ (Below.refl _ _).alloc (Nat.le_refl _) _
        have HB7 := Lib.hid (HTr.out HB6.out hb67)
        have HKa : Hid (Blk w7 pa 28 s2.val.cells) := Lib.hid (by rw [hw7, hpa]; exact Blk.new w6 _ _)
        have HSa := Lib.hid (sameown_any s2 _ w7 (hi2.next hb67) (HIW.out w7 HB7.out))
        obtain ⟨r, hr⟩ : ∃ r, r = decide (s2.v.os = (⟨me, os, ⟨D1, d1, k1⟩, es, ⟨D2, d2, k2⟩, q, as_, ⟨D3, d3, k3⟩, gs, ⟨D4, d4, k4⟩⟩ : StL).v.os) := ⟨_, rfl⟩
        rw [← hr] at HSa
        have HR : Hid (e2 = 0 → r = true) := Lib.hid (fun h0 => by rw [hr, hv2]; exact decide_eq_true (HL.out h0))
        clear hb hb6 hv2 ho2 hi2 hb67 hr HL HIW
        obtain ⟨me2, os2, ⟨F1, f1, j1⟩, es2, ⟨F2, f2, j2⟩, q2, as2, ⟨F3, f3, j3⟩, gs2, ⟨F4, f4, j4⟩⟩ := s2
        simp only [StL.val, Sl.val, Value.cells] at HKa HSa hw7 ⊢
        have z0 : w7.cell? ⟨pa, 0, none⟩ = some (.int .i64 me2) := HKa.out.cell 0
        have z1 : w7.cell? ⟨pa, 1, none⟩ = some (.slice F1 f1 j1) := HKa.out.cell 1
        have z2 : w7.cell? ⟨pa, 2, none⟩ = some (.slice F2 f2 j2) := HKa.out.cell 2
        have z3 : w7.cell? ⟨pa, 3, none⟩ = some (.int .i64 q2) := HKa.out.cell 3
        have z4 : w7.cell? ⟨pa, 4, none⟩ = some (.slice F3 f3 j3) := HKa.out.cell 4
        have z5 : w7.cell? ⟨pa, 5, none⟩ = some (.slice F4 f4 j4) := HKa.out.cell 5
        clear x0 x1 x2 x3 x4 x5 y0 y1 y2 y3 y4 y5 y6 y7 y8 y9 y10 HKa
        obtain ⟨x0, x1, x2, x3, x4, x5, y0, y1, y2, y3, y4, y5, y6, y7, y8, y9, y10⟩ := HX.out w7 HB7.out
        clear HX
        go_wp2_with fail
        rw [← hw7, ← hpa]
        clear hw7 hpa
        refine HK1.out _ _ ?_
        clear HK1
        by_cases h0 : e2 = 0
        · have hr := HR.out h0
          subst hr
          subst h0
          clear HR
          go_wp2_with fail
          refine HSa.out.mono ?_
          rintro e w8 ⟨rfl, hb⟩
          have HB8 := Lib.hid (HTr.out HB7.out hb)
          clear hb
          go_wp2
          go_ret
          exact ⟨rfl, HB1.out.trans (HB8.out.mono HB1.out.size)⟩
        · have t1 : (e2 == 0) = false := by simpa using h0
          have t3 : (e2 != 0) = true := by simpa using h0
          clear HR
          go_wp2
          go_ret
          exact ⟨rfl, HB1.out.trans (HB7.out.mono HB1.out.size)⟩
    · go_wp2
      go_ret
      exact ⟨rfl, HB1.out.trans (HB5.out.mono HB1.out.size)⟩
  · have t1 : (er == 0) = false := by simpa using her
    have t2 : (er != 0) = true := by simpa using her
    have HB4 := Lib.hid (HB3w.out.trans (hb4.mono HB3w.out.size))
    clear hb4 hch her
    go_wp2
    go_ret
    exact ⟨rfl, HB4.out⟩
end Go.Proofs.Ytiaafhcfeeekeaa.Pk
