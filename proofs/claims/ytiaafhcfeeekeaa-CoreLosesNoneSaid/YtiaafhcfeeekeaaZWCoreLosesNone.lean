/- The walk of the law CoreLosesNone. -/
import Derived.Test.YtiaafhcfeeekeaaZCoLose
import Derived.Test.YtiaafhcfeeekeaaZChFacts
import Derived.Test.YtiaafhcfeeekeaaZTrMath
import Derived.Test.YtiaafhcfeeekeaaZWiEq
import Derived.Deep.RegionHeld3
import Derived.Deep.DeepMust
namespace Go.Proofs.Ytiaafhcfeeekeaa.Pk
open Go.RowKit Go.Proofs.Ytiaafhcfeeekeaa.Gr Go.Proofs.Ytiaafhcfeeekeaa.Ar
set_option linter.unusedVariables false
theorem good_outs {ps : List Int} (G : Gr.Good ps) {z : StL} (h : GoodS ps z.v) : z.es.length ≤ 32 ∧ ∀ e ∈ z.es, e.v.o.length ≤ 1024 := by
  have hn := G.few
  refine ⟨?_, fun e he => ?_⟩
  · have e := congrArg List.length h.ps_
    have e : ((z.es.map (·.v)).map (·.p)).length = (nbsI ps z.v.me).length := e
    rw [List.length_map, List.length_map] at e
    rw [e]
    unfold nbsI
    rw [if_pos h.me]
    exact Nat.le_trans (nbs_len _ _ _) hn
  · exact (h.es e.v (List.mem_map.2 ⟨e, he, rfl⟩)).1.2.2.2.2.2.1
theorem good_one {ps : List Int} {s : St} (h : GoodS ps s) {k : Nat} (hk : k < s.os.length) : offN (objA s k).c ≤ 1 := offN_one (h.os _ (obj_mem hk)).2.2.1
set_option maxRecDepth 100000 in
set_option maxHeartbeats 8000000 in
theorem law_CoreLosesNone (HFi : StFirstP) (HAp : CoApplyP) (A : Option Addr) (n c : Nat) (ps : List Int) (s : StL) (ev : Ev) (w : World) (hk : ArgN w A n c ps) (hs : InS w s) (he : ev.I) :
    Calls Try.prog 4 #[.slice A n c, s.val, ev.val] w fun e w' => e = .returned (.bool true) ∧ Below w.heap.size w w' := by
  have HW := Lib.hid (fun w => wakesC HFi HAp w)
  have HRd := Lib.hid hk.1
  have hn : n ≤ 4611686018427387904 := by have h1 := hk.2.1; have h2 := hk.2.2.1; omega
  have HI := Lib.hid hs
  have HE := Lib.hid he
  have HAp := Lib.hid HAp
  clear hk hs he
  obtain ⟨p, hp⟩ : ∃ p, p = w.heap.size := ⟨_, rfl⟩
  obtain ⟨pe, hpe⟩ : ∃ x, x = p + 1 := ⟨_, rfl⟩
  obtain ⟨wa, hwa⟩ : ∃ wa, wa = w.alloc (.cells s.val.cells 28) := ⟨_, rfl⟩
  obtain ⟨W1, hW1⟩ : ∃ W1, W1 = wa.alloc (.cells ev.val.cells 34) := ⟨_, rfl⟩
  have hsa : wa.heap.size = p + 1 := by rw [hwa, World.size_alloc, hp]
  have hba : Below w.heap.size w wa := hwa ▸ (Below.refl _ _).alloc (Nat.le_refl _) _
  have HB1 : Hid (Below w.heap.size w W1) := Lib.hid (hW1 ▸ hba.alloc (by omega) _)
  have HKp : Hid (Blk W1 p 28 s.val.cells) := Lib.hid (by rw [hW1, hwa, hp]; exact (Blk.new w _ _).alloc _)
  have HKt : Hid (Blk W1 pe 34 ev.val.cells) := Lib.hid (by rw [hW1, hpe, ← hsa]; exact Blk.new wa _ _)
  have tr : ∀ {W w' : World}, Below W1.heap.size W1 W → Below W.heap.size W w' → Below W1.heap.size W1 w' := fun h k => h.trans (k.mono h.size)
  have HTr : Hid (∀ {W w' : World}, Below W1.heap.size W1 W → Below W.heap.size W w' → Below W1.heap.size W1 w') := Lib.hid tr
  have HIW := Lib.hid (fun W (hW : Below W1.heap.size W1 W) => HI.out.next (HB1.out.trans (hW.mono HB1.out.size)))
  have HWa : Hid (∀ W, Below W1.heap.size W1 W → Calls Try.prog 10 #[] W fun e w' => e = .returned (.bool true) ∧ Below W1.heap.size W1 w') := Lib.hid (fun W hW => (HW.out W).mono fun e w' h => ⟨h.1, tr hW h.2⟩)
  have HHv : Hid (∀ W, Below W1.heap.size W1 W → Calls Try.prog 12 #[s.val] W fun e w' => IsBool e ∧ Below W.heap.size W w') := Lib.hid (fun W hW => heavy_any s W (HIW.out W hW))
  obtain ⟨⟨t2, n2, e2⟩, ht2⟩ : ∃ x, x = applyS ps s.v ev := ⟨_, rfl⟩
  have HT2 := Lib.hid ht2
  have HAp9 : Hid (∀ (T g : Nat) (W0 : World), Below W1.heap.size W1 W0 → IsTr W0 T g ps → Gr.Good ps → ∀ W, Below W0.heap.size W0 W → Calls Try.prog 13 #[.pointer (some ⟨T, 0, none⟩), s.val, ev.val] W fun e w' => ∃ s2 : StL, e = .returned (.tuple #[s2.val, .int .i64 n2, .int .i64 e2]) ∧ s2.v = t2 ∧ OwnX w' W.heap.size s2 ∧ InS w' s2 ∧ Below W.heap.size W w' ∧ Below W1.heap.size W1 w') := Lib.hid (fun T g W0 h0 ht G W hW => (HAp.out T g ps s ev W (ht.below_ hW) G (HIW.out W (tr h0 hW)) HE.out).mono fun e w' ⟨s2, h1, h2, h3, h4⟩ => ⟨s2, by rw [h1, ← HT2.out], by rw [h2, ← HT2.out], h3, h3.few (by rw [h2]; exact applyS_few G), h4, tr (tr h0 hW) h4⟩)
  clear tr HAp HE HW ht2 HI
  obtain ⟨me, os, ⟨D1, d1, k1⟩, es, ⟨D2, d2, k2⟩, q, as_, ⟨D3, d3, k3⟩, gs, ⟨D4, d4, k4⟩⟩ := s
  obtain ⟨ek, eo, ⟨gf, gt, ga, gs_, ⟨mk, mo, mn, mu, mv⟩⟩⟩ := ev
  simp only [StL.val, Sl.val, Ev.val, Value.cells] at HKp HKt HHv HAp9 hwa hW1 ⊢
  have HX : Hid (∀ W, Below W1.heap.size W1 W → W.cell? ⟨p, 0, none⟩ = some (.int .i64 me) ∧ W.cell? ⟨p, 1, none⟩ = some (.slice D1 d1 k1) ∧ W.cell? ⟨p, 2, none⟩ = some (.slice D2 d2 k2) ∧ W.cell? ⟨p, 3, none⟩ = some (.int .i64 q) ∧ W.cell? ⟨p, 4, none⟩ = some (.slice D3 d3 k3) ∧ W.cell? ⟨p, 5, none⟩ = some (.slice D4 d4 k4) ∧ W.cell? ⟨pe, 0, none⟩ = some (.int .i64 ek) ∧ W.cell? ⟨pe, 1, none⟩ = some (.int .i64 eo) ∧ W.cell? ⟨pe, 2, none⟩ = some (.int .i64 gf) ∧ W.cell? ⟨pe, 3, none⟩ = some (.int .i64 gt) ∧ W.cell? ⟨pe, 4, none⟩ = some (.int .i64 ga) ∧ W.cell? ⟨pe, 5, none⟩ = some (.int .i64 gs_) ∧ W.cell? ⟨pe, 6, none⟩ = some (.int .i64 mk) ∧ W.cell? ⟨pe, 7, none⟩ = some (.int .i64 mo) ∧ W.cell? ⟨pe, 8, none⟩ = some (.int .i64 mn) ∧ W.cell? ⟨pe, 9, none⟩ = some (.int .i64 mu) ∧ W.cell? ⟨pe, 10, none⟩ = some (.int .i64 mv)) := Lib.hid (fun W hW => by
    have h1 := HKp.out.below hW HKp.out.lt
    have h2 := HKt.out.below hW HKt.out.lt
    exact ⟨h1.cell 0, h1.cell 1, h1.cell 2, h1.cell 3, h1.cell 4, h1.cell 5, h2.cell 0, h2.cell 1, h2.cell 2, h2.cell 3, h2.cell 4, h2.cell 5, h2.cell 6, h2.cell 7, h2.cell 8, h2.cell 9, h2.cell 10⟩)
  go_enter Try.func4, Try.ntmps4
  go_wp2_with fail
  rw [← hwa, ← hW1]
  clear hwa hba hsa
  refine (HWa.out _ (Below.refl _ _)).mono ?_
  rintro e w3 ⟨rfl, hb⟩
  have HB3 := Lib.hid hb
  have HB3w := Lib.hid (HB1.out.trans (HB3.out.mono HB1.out.size))
  have HN := Lib.hid (new_any A n c ps w3 w.heap.size (HRd.out.below HB3w.out) HB3w.out.size hn)
  clear hb hW1
  rw [← hp, ← hpe]
  clear hp hpe
  go_wp2_with fail
  refine HN.out.mono ?_
  rintro e w4 ⟨hb4, ⟨T, g, rfl, hch, ht, hT, hg, hTg⟩ | ⟨u, er, rfl, hch, her⟩⟩
  · have hG := hch.good.1
    have HG := Lib.hid hG
    have HB4 : Hid (Below W1.heap.size W1 w4) := Lib.hid (HB3.out.trans (hb4.mono HB3.out.size))
    have HAp9 := Lib.hid (HAp9.out T g w4 HB4.out ht hG)
    obtain ⟨x0, x1, x2, x3, x4, x5, y0, y1, y2, y3, y4, y5, y6, y7, y8, y9, y10⟩ := HX.out w4 HB4.out
    clear hb4 hch ht hT hg hTg HN hG HWa HRd HB3 HB3w
    go_wp2_with fail
    refine (HHv.out _ HB4.out).mono ?_
    rintro e w5 ⟨⟨b, rfl⟩, hb⟩
    have HB5 := Lib.hid (HTr.out HB4.out hb)
    have HD5 := Lib.hid hb
    clear hb x0 x1 x2 x3 x4 x5 y0 y1 y2 y3 y4 y5 y6 y7 y8 y9 y10 HHv
    cases b
    · obtain ⟨x0, x1, x2, x3, x4, x5, y0, y1, y2, y3, y4, y5, y6, y7, y8, y9, y10⟩ := HX.out w5 HB5.out
      go_wp2_with fail
      refine (HAp9.out w5 HD5.out).mono ?_
      rintro e w6 ⟨s2, rfl, hv2, ho2, hi2, hb, hb6⟩
      rename_i K1 hK1 K2 hK2
      have HK1 := Lib.hid hK1
      clear hK1
      have HB6 := Lib.hid hb6
      obtain ⟨pa, hpa⟩ : ∃ k, k = w6.heap.size := ⟨_, rfl⟩
      obtain ⟨w7, hw7⟩ : ∃ V, V = w6.alloc (.cells s2.val.cells 28) := ⟨_, rfl⟩
      have hb67 : Below w6.heap.size w6 w7 := hw7 ▸ (Below.refl _ _).alloc (Nat.le_refl _) _
      have HB7 := Lib.hid (HTr.out HB6.out hb67)
      have HD7 := Lib.hid ((HD5.out.trans (hb.mono HD5.out.size)).trans (hb67.mono (HD5.out.trans (hb.mono HD5.out.size)).size))
      have HI2 := Lib.hid (hi2.next hb67)
      have HV2 := Lib.hid hv2
      have HKa : Hid (Blk w7 pa 28 s2.val.cells) := Lib.hid (by rw [hw7, hpa]; exact Blk.new w6 _ _)
      clear hb hb6 hv2 ho2 hi2 hb67 HAp9
      have HS1 := Lib.hid (fun W (hW : Below w7.heap.size w7 W) => HIW.out W (HTr.out HB7.out hW))
      have HS2 := Lib.hid (fun W (hW : Below w7.heap.size w7 W) => HI2.out.next hW)
      clear HIW
      obtain ⟨me2, os2, ⟨F1, f1, j1⟩, es2, ⟨F2, f2, j2⟩, q2, as2, ⟨F3, f3, j3⟩, gs2, ⟨F4, f4, j4⟩⟩ := s2
      simp only [StL.val, Sl.val, Value.cells] at HKa hw7 ⊢
      have HZ : Hid (∀ W, Below w7.heap.size w7 W → W.cell? ⟨pa, 0, none⟩ = some (.int .i64 me2) ∧ W.cell? ⟨pa, 1, none⟩ = some (.slice F1 f1 j1) ∧ W.cell? ⟨pa, 2, none⟩ = some (.slice F2 f2 j2) ∧ W.cell? ⟨pa, 3, none⟩ = some (.int .i64 q2) ∧ W.cell? ⟨pa, 4, none⟩ = some (.slice F3 f3 j3) ∧ W.cell? ⟨pa, 5, none⟩ = some (.slice F4 f4 j4)) := Lib.hid (fun W hW => by
        have h1 := HKa.out.below hW HKa.out.lt
        exact ⟨h1.cell 0, h1.cell 1, h1.cell 2, h1.cell 3, h1.cell 4, h1.cell 5⟩)
      have HX7 : Hid (∀ W, Below w7.heap.size w7 W → W.cell? ⟨p, 0, none⟩ = some (.int .i64 me) ∧ W.cell? ⟨p, 1, none⟩ = some (.slice D1 d1 k1) ∧ W.cell? ⟨p, 2, none⟩ = some (.slice D2 d2 k2) ∧ W.cell? ⟨p, 3, none⟩ = some (.int .i64 q) ∧ W.cell? ⟨p, 4, none⟩ = some (.slice D3 d3 k3) ∧ W.cell? ⟨p, 5, none⟩ = some (.slice D4 d4 k4) ∧ W.cell? ⟨pe, 0, none⟩ = some (.int .i64 ek) ∧ W.cell? ⟨pe, 1, none⟩ = some (.int .i64 eo) ∧ W.cell? ⟨pe, 2, none⟩ = some (.int .i64 gf) ∧ W.cell? ⟨pe, 3, none⟩ = some (.int .i64 gt) ∧ W.cell? ⟨pe, 4, none⟩ = some (.int .i64 ga) ∧ W.cell? ⟨pe, 5, none⟩ = some (.int .i64 gs_) ∧ W.cell? ⟨pe, 6, none⟩ = some (.int .i64 mk) ∧ W.cell? ⟨pe, 7, none⟩ = some (.int .i64 mo) ∧ W.cell? ⟨pe, 8, none⟩ = some (.int .i64 mn) ∧ W.cell? ⟨pe, 9, none⟩ = some (.int .i64 mu) ∧ W.cell? ⟨pe, 10, none⟩ = some (.int .i64 mv)) := Lib.hid (fun W hW => HX.out W (HTr.out HB7.out hW))
      clear x0 x1 x2 x3 x4 x5 y0 y1 y2 y3 y4 y5 y6 y7 y8 y9 y10 HKa HX
      obtain ⟨x0, x1, x2, x3, x4, x5, y0, y1, y2, y3, y4, y5, y6, y7, y8, y9, y10⟩ := HX7.out w7 (Below.refl _ _)
      obtain ⟨z0, z1, z2, z3, z4, z5⟩ := HZ.out w7 (Below.refl _ _)
      go_wp2_with fail
      rw [← hw7, ← hpa]
      clear hw7 hpa
      refine HK1.out _ _ ?_
      clear HK1
      by_cases h0 : e2 = 0
      rotate_left
      · have t1 : (e2 == 0) = false := by simpa using h0
        have t3 : (e2 != 0) = true := by simpa using h0
        clear HT2
        go_wp2
        go_ret
        exact ⟨rfl, HB1.out.trans (HB7.out.mono HB1.out.size)⟩
      have h9 : (applyS ps (⟨me, os, ⟨D1, d1, k1⟩, es, ⟨D2, d2, k2⟩, q, as_, ⟨D3, d3, k3⟩, gs, ⟨D4, d4, k4⟩⟩ : StL).v (⟨ek, eo, ⟨gf, gt, ga, gs_, ⟨mk, mo, mn, mu, mv⟩⟩⟩ : Ev)).2.2 = 0 := by rw [← HT2.out]; exact h0
      obtain ⟨a1, a2, a3⟩ := applyS_zero h9
      have e3 : t2 = (stepS ps (⟨me, os, ⟨D1, d1, k1⟩, es, ⟨D2, d2, k2⟩, q, as_, ⟨D3, d3, k3⟩, gs, ⟨D4, d4, k4⟩⟩ : StL).v (⟨ek, eo, ⟨gf, gt, ga, gs_, ⟨mk, mo, mn, mu, mv⟩⟩⟩ : Ev)).1 := by rw [← a3, ← HT2.out]
      have e4 : n2 = (stepS ps (⟨me, os, ⟨D1, d1, k1⟩, es, ⟨D2, d2, k2⟩, q, as_, ⟨D3, d3, k3⟩, gs, ⟨D4, d4, k4⟩⟩ : StL).v (⟨ek, eo, ⟨gf, gt, ga, gs_, ⟨mk, mo, mn, mu, mv⟩⟩⟩ : Ev)).2.1 := by rw [← a3, ← HT2.out]
      subst h0
      have HL1 := Lib.hid HI2.out.os.len
      have HL2 := Lib.hid HI2.out.es.len
      have hcnt := (step_counts a1 a2).os
      have hgt := step_good HG.out a1 a2
      have hls := fun (h4 : ek ≠ 4) => step_loses HG.out a1 a2 h4
      rw [← e3, ← HV2.out] at hcnt hgt
      rw [← e3, ← HV2.out] at hls
      have l1 : f1 = d1 := by
        have h1 := HI2.out.os.len
        have h2 := (HS1.out w7 (Below.refl _ _)).os.len
        have h3 : (os2.map (·.v)).length = (os.map (·.v)).length := hcnt
        rw [List.length_map, List.length_map] at h3
        exact h1.symm.trans (h3.trans h2)
      subst l1
      have hfew : f1 * 40 ≤ 140737488351232 := (HS1.out w7 (Below.refl _ _)).os.few
      have HLo : Hid (os.length = f1) := Lib.hid (HS1.out w7 (Below.refl _ _)).os.len
      have HO1 := Lib.hid (good_outs HG.out a1)
      have HO2 := Lib.hid (good_outs HG.out hgt)
      have HTh1 := Lib.hid (fun (i : Nat) (hi : i < f1) W (hW : Below w7.heap.size w7 W) => there_any _ i W (HS1.out W hW) (by show i < os.length; rw [HLo.out]; exact hi) HO1.out)
      have HTh2 := Lib.hid (fun (i : Nat) (hi : i < f1) W (hW : Below w7.heap.size w7 W) => there_any _ i W (HS2.out W hW) (by show i < os2.length; rw [HL1.out]; exact hi) HO2.out)
      have HF : Hid (∀ i : Nat, i < f1 → ∃ x1 y1 x2 y2 : Nat, x1 = offN (objA (⟨me, os, ⟨D1, f1, k1⟩, es, ⟨D2, d2, k2⟩, q, as_, ⟨D3, d3, k3⟩, gs, ⟨D4, d4, k4⟩⟩ : StL).v i).c ∧ y1 = passN (⟨me, os, ⟨D1, f1, k1⟩, es, ⟨D2, d2, k2⟩, q, as_, ⟨D3, d3, k3⟩, gs, ⟨D4, d4, k4⟩⟩ : StL).v.es (i : Int) ∧ x2 = offN (objA (⟨me2, os2, ⟨F1, f1, j1⟩, es2, ⟨F2, f2, j2⟩, q2, as2, ⟨F3, f3, j3⟩, gs2, ⟨F4, f4, j4⟩⟩ : StL).v i).c ∧ y2 = passN (⟨me2, os2, ⟨F1, f1, j1⟩, es2, ⟨F2, f2, j2⟩, q2, as2, ⟨F3, f3, j3⟩, gs2, ⟨F4, f4, j4⟩⟩ : StL).v.es (i : Int) ∧ x1 ≤ 1 ∧ x2 ≤ 1 ∧ y1 ≤ 32768 ∧ y2 ≤ 32768 ∧ (ek ≠ 4 → x1 + y1 = x2 + y2)) := Lib.hid (fun i hi => by
        refine ⟨_, _, _, _, rfl, rfl, rfl, rfl, good_one a1 (by show i < (os.map (·.v)).length; rw [List.length_map, HLo.out]; exact hi), good_one hgt (by show i < (os2.map (·.v)).length; rw [List.length_map, HL1.out]; exact hi), ?_, ?_, fun h => (hls h i).symm⟩
        · have h := passN_le (l := es) (k := (i : Int)) HO1.out.2
          have h2 : es.length ≤ 32 := HO1.out.1
          show passN (es.map (·.v)) (i : Int) ≤ _
          omega
        · have h := passN_le (l := es2) (k := (i : Int)) HO2.out.2
          have h2 : es2.length ≤ 32 := HO2.out.1
          show passN (es2.map (·.v)) (i : Int) ≤ _
          omega)
      clear hcnt hgt hls a1 a2 a3 e3 e4 h9 HT2 HV2 HI2 HD5 HD7 HO1 HO2 HLo HL1 HL2
      go_wp2_with fail
      go_loopw [42] (fun j wr => ∃ i : Nat, j = .int .i64 i ∧ i ≤ f1 ∧ Below w7.heap.size w7 wr) (fun j _ => f1 - (intOf j).toNat)
      case atStart => exact ⟨0, rfl, by omega, Below.refl _ _⟩
      case round =>
        obtain ⟨i, rfl, hi, hb⟩ := hrel
        obtain ⟨w8, rfl⟩ : ∃ w1 : World, w1 = wr := ⟨_, rfl⟩
        have HB8 := Lib.hid hb
        clear hb x0 x1 x2 x3 x4 x5 y0 y1 y2 y3 y4 y5 y6 y7 y8 y9 y10 z0 z1 z2 z3 z4 z5
        obtain ⟨x0, x1, x2, x3, x4, x5, y0, y1, y2, y3, y4, y5, y6, y7, y8, y9, y10⟩ := HX7.out w8 HB8.out
        by_cases hlt : i < f1
        · obtain ⟨n3, v3, n4, v4, E1, E2, E3, E4, hx1, hx2, hy1, hy2, hsum⟩ := HF.out i hlt
          have HC1 := Lib.hid (HTh1.out i hlt w8 HB8.out)
          have HC2 := Lib.hid (HTh2.out i hlt)
          rw [← E1, ← E2] at HC1
          rw [← E3, ← E4] at HC2
          clear E1 E2 E3 E4 HF
          simp only [StL.val, Sl.val] at HC1 HC2
          go_wp2_with fail
          refine HC1.out.mono ?_
          rintro e w9 ⟨rfl, hb⟩
          have HB9 := Lib.hid (HB8.out.trans (hb.mono HB8.out.size))
          clear hb x0 x1 x2 x3 x4 x5 y0 y1 y2 y3 y4 y5 y6 y7 y8 y9 y10
          obtain ⟨x0, x1, x2, x3, x4, x5, y0, y1, y2, y3, y4, y5, y6, y7, y8, y9, y10⟩ := HX7.out w9 HB9.out
          obtain ⟨z0, z1, z2, z3, z4, z5⟩ := HZ.out w9 HB9.out
          go_wp2_with fail
          refine (HC2.out w9 HB9.out).mono ?_
          rintro e w10 ⟨rfl, hb⟩
          have HB10 := Lib.hid (HB9.out.trans (hb.mono HB9.out.size))
          clear hb x0 x1 x2 x3 x4 x5 y0 y1 y2 y3 y4 y5 y6 y7 y8 y9 y10 z0 z1 z2 z3 z4 z5
          obtain ⟨x0, x1, x2, x3, x4, x5, y0, y1, y2, y3, y4, y5, y6, y7, y8, y9, y10⟩ := HX7.out w10 HB10.out
          have g1 : ¬ ((1 : Int) < (n3 : Int)) := by omega
          have g2 : ¬ ((1 : Int) < (n4 : Int)) := by omega
          by_cases h4 : ek = 4
          · subst h4
            go_wp2
            go_roundw
            case rel => exact ⟨i + 1, by go_num, by omega, HB10.out⟩
            case measure => simp [intOf]; omega
          · have t4 : (ek == 4) = false := by simpa using h4
            have hs := hsum h4
            have hs2 : (n3 : Int) + (v3 : Int) = (n4 : Int) + (v4 : Int) := by omega
            go_wp2
            go_roundw
            case rel => exact ⟨i + 1, by go_num, by omega, HB10.out⟩
            case measure => simp [intOf]; omega
        · have hend := HB1.out.trans ((HTr.out HB7.out HB8.out).mono HB1.out.size)
          go_wp2
          go_ret
          exact ⟨rfl, hend⟩
    · go_wp2
      go_ret
      exact ⟨rfl, HB1.out.trans (HB5.out.mono HB1.out.size)⟩
  · have t1 : (er == 0) = false := by simpa using her
    have t2 : (er != 0) = true := by simpa using her
    have HB4 := Lib.hid (HB3w.out.trans (hb4.mono HB3w.out.size))
    clear hb4 hch her
    go_wp2
    go_ret
    exact ⟨rfl, HB4.out⟩
end Go.Proofs.Ytiaafhcfeeekeaa.Pk
