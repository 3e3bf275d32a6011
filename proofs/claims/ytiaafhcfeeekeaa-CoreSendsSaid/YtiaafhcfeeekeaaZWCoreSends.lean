/- The walk of the law CoreSends. -/
import Derived.Test.YtiaafhcfeeekeaaZCoLose
import Derived.Test.YtiaafhcfeeekeaaZChFacts
import Derived.Test.YtiaafhcfeeekeaaZCoSend
import Derived.Deep.RegionHeld3
import Derived.Deep.DeepMust
import Derived.Deep.QuietTactic
import Derived.BigQuiet
namespace Go.Proofs.Ytiaafhcfeeekeaa.Pk
open Go.RowKit Go.Proofs.Ytiaafhcfeeekeaa.Gr Go.Proofs.Ytiaafhcfeeekeaa.Ar
set_option linter.unusedVariables false
/-- What was taken among the first sides. -/
def TookN (s t : St) (n : Nat) : Prop := ∃ i, i < n ∧ (sideA t i).s ≠ (sideA s i).s
theorem tookN_succ {s t : St} {n : Nat} : TookN s t (n + 1) ↔ (TookN s t n ∨ (sideA t n).s ≠ (sideA s n).s) := by
  constructor
  · rintro ⟨i, hi, h⟩
    by_cases hn : i = n
    · subst hn; exact .inr h
    · exact .inl ⟨i, by omega, h⟩
  · rintro (⟨i, hi, h⟩ | h)
    · exact ⟨i, by omega, h⟩
    · exact ⟨n, by omega, h⟩
theorem sideA_v {s : StL} {i : Nat} {r : SdL} (h : s.es[i]? = some r) : sideA s.v i = r.v := by
  unfold sideA
  show (s.es.map SdL.v).getD i _ = _
  rw [List.getD_eq_getElem?_getD, List.getElem?_map, h]; rfl
theorem objA_v {s : StL} {i : Nat} {r : OwL} (h : s.os[i]? = some r) : objA s.v i = r.v := by
  unfold objA
  show (s.os.map OwL.v).getD i _ = _
  rw [List.getD_eq_getElem?_getD, List.getElem?_map, h]; rfl
theorem side_bound {ps : List Int} {s : StL} (h : GoodS ps s.v) {i : Nat} {r : SdL} (hr : s.es[i]? = some r) : 0 ≤ r.v.b ∧ r.v.b + (r.v.o.length : Int) ≤ 1099511627776 := by
  have k := (h.es r.v (List.mem_map.2 ⟨r, List.mem_of_getElem? hr, rfl⟩)).1
  exact ⟨k.2.2.1, k.2.2.2.2.2.2.1⟩
set_option maxRecDepth 100000 in
set_option maxHeartbeats 8000000 in
theorem law_CoreSends (HFi : StFirstP) (HAp : CoApplyP) (A : Option Addr) (n c : Nat) (ps : List Int) (s : StL) (ev : Ev) (w : World) (hk : ArgN w A n c ps) (hs : InS w s) (he : ev.I) :
    Calls Try.prog 9 #[.slice A n c, s.val, ev.val] w fun e w' => e = .returned (.bool true) ∧ Below w.heap.size w w' := by
  have HW := Lib.hid (fun w => wakesC HFi HAp w)
  have HRd := Lib.hid hk.1
  have hn : n ≤ 4611686018427387904 := by have h1 := hk.2.1; have h2 := hk.2.2.1; omega
  have HI := Lib.hid hs
  have HE := Lib.hid he
  have HAp := Lib.hid HAp
  clear hk hs he
  obtain ⟨p, hp⟩ : ∃ p, p = w.heap.size := ⟨_, rfl⟩
  obtain ⟨pe, hpe⟩ : ∃ x, x = p + 1 := ⟨_, rfl⟩
  obtain ⟨wa, hwa⟩ : ∃ wa, wa = w.alloc (.cells s.val.cells 28) := ⟨_, rfl⟩
  obtain ⟨W1, hW1⟩ : ∃ W1, W1 = wa.alloc (.cells ev.val.cells 34) := ⟨_, rfl⟩
  have hsa : wa.heap.size = p + 1 := by rw [hwa, World.size_alloc, hp]
  have hba : Below w.heap.size w wa := hwa ▸ (Below.refl _ _).alloc (Nat.le_refl _) _
  have HB1 : Hid (Below w.heap.size w W1) := Lib.hid (hW1 ▸ hba.alloc (by omega) _)
  have HKp : Hid (Blk W1 p 28 s.val.cells) := Lib.hid (by rw [hW1, hwa, hp]; exact (Blk.new w _ _).alloc _)
  have HKt : Hid (Blk W1 pe 34 ev.val.cells) := Lib.hid (by rw [hW1, hpe, ← hsa]; exact Blk.new wa _ _)
  have tr : ∀ {W w' : World}, Below W1.heap.size W1 W → Below W.heap.size W w' → Below W1.heap.size W1 w' := fun h k => h.trans (k.mono h.size)
  have HTr : Hid (∀ {W w' : World}, Below W1.heap.size W1 W → Below W.heap.size W w' → Below W1.heap.size W1 w') := Lib.hid tr
  have HIW := Lib.hid (fun W (hW : Below W1.heap.size W1 W) => HI.out.next (HB1.out.trans (hW.mono HB1.out.size)))
  have HWa : Hid (∀ W, Below W1.heap.size W1 W → Calls Try.prog 10 #[] W fun e w' => e = .returned (.bool true) ∧ Below W1.heap.size W1 w') := Lib.hid (fun W hW => (HW.out W).mono fun e w' h => ⟨h.1, tr hW h.2⟩)
  have HHv : Hid (∀ W, Below W1.heap.size W1 W → Calls Try.prog 12 #[s.val] W fun e w' => IsBool e ∧ Below W.heap.size W w') := Lib.hid (fun W hW => heavy_any s W (HIW.out W hW))
  obtain ⟨⟨t2, n2, e2⟩, ht2⟩ : ∃ x, x = applyS ps s.v ev := ⟨_, rfl⟩
  have HT2 := Lib.hid ht2
  have HAp9 : Hid (∀ (T g : Nat) (W0 : World), Below W1.heap.size W1 W0 → IsTr W0 T g ps → Gr.Good ps → ∀ W, Below W0.heap.size W0 W → Calls Try.prog 13 #[.pointer (some ⟨T, 0, none⟩), s.val, ev.val] W fun e w' => ∃ s2 : StL, e = .returned (.tuple #[s2.val, .int .i64 n2, .int .i64 e2]) ∧ s2.v = t2 ∧ OwnX w' W.heap.size s2 ∧ InS w' s2 ∧ Below W.heap.size W w' ∧ Below W1.heap.size W1 w') := Lib.hid (fun T g W0 h0 ht G W hW => (HAp.out T g ps s ev W (ht.below_ hW) G (HIW.out W (tr h0 hW)) HE.out).mono fun e w' ⟨s2, h1, h2, h3, h4⟩ => ⟨s2, by rw [h1, ← HT2.out], by rw [h2, ← HT2.out], h3, h3.few (by rw [h2]; exact applyS_few G), h4, tr (tr h0 hW) h4⟩)
  clear tr HAp HE HW ht2 HI
  obtain ⟨me, os, ⟨D1, d1, k1⟩, es, ⟨D2, d2, k2⟩, q, as_, ⟨D3, d3, k3⟩, gs, ⟨D4, d4, k4⟩⟩ := s
  obtain ⟨ek, eo, ⟨gf, gt, ga, gs_, ⟨mk, mo, mn, mu, mv⟩⟩⟩ := ev
  simp only [StL.val, Sl.val, Ev.val, Value.cells] at HKp HKt HHv HAp9 hwa hW1 ⊢
  have HX : Hid (∀ W, Below W1.heap.size W1 W → W.cell? ⟨p, 0, none⟩ = some (.int .i64 me) ∧ W.cell? ⟨p, 1, none⟩ = some (.slice D1 d1 k1) ∧ W.cell? ⟨p, 2, none⟩ = some (.slice D2 d2 k2) ∧ W.cell? ⟨p, 3, none⟩ = some (.int .i64 q) ∧ W.cell? ⟨p, 4, none⟩ = some (.slice D3 d3 k3) ∧ W.cell? ⟨p, 5, none⟩ = some (.slice D4 d4 k4) ∧ W.cell? ⟨pe, 0, none⟩ = some (.int .i64 ek) ∧ W.cell? ⟨pe, 1, none⟩ = some (.int .i64 eo) ∧ W.cell? ⟨pe, 2, none⟩ = some (.int .i64 gf) ∧ W.cell? ⟨pe, 3, none⟩ = some (.int .i64 gt) ∧ W.cell? ⟨pe, 4, none⟩ = some (.int .i64 ga) ∧ W.cell? ⟨pe, 5, none⟩ = some (.int .i64 gs_) ∧ W.cell? ⟨pe, 6, none⟩ = some (.int .i64 mk) ∧ W.cell? ⟨pe, 7, none⟩ = some (.int .i64 mo) ∧ W.cell? ⟨pe, 8, none⟩ = some (.int .i64 mn) ∧ W.cell? ⟨pe, 9, none⟩ = some (.int .i64 mu) ∧ W.cell? ⟨pe, 10, none⟩ = some (.int .i64 mv)) := Lib.hid (fun W hW => by
    have h1 := HKp.out.below hW HKp.out.lt
    have h2 := HKt.out.below hW HKt.out.lt
    exact ⟨h1.cell 0, h1.cell 1, h1.cell 2, h1.cell 3, h1.cell 4, h1.cell 5, h2.cell 0, h2.cell 1, h2.cell 2, h2.cell 3, h2.cell 4, h2.cell 5, h2.cell 6, h2.cell 7, h2.cell 8, h2.cell 9, h2.cell 10⟩)
  go_enter Try.func9, Try.ntmps9
  go_wp2_with fail
  rw [← hwa, ← hW1]
  clear hwa hba hsa
  refine (HWa.out _ (Below.refl _ _)).mono ?_
  rintro e w3 ⟨rfl, hb⟩
  have HB3 := Lib.hid hb
  have HB3w := Lib.hid (HB1.out.trans (HB3.out.mono HB1.out.size))
  have HN := Lib.hid (new_any A n c ps w3 w.heap.size (HRd.out.below HB3w.out) HB3w.out.size hn)
  clear hb hW1
  rw [← hp, ← hpe]
  clear hp hpe
  go_wp2_with fail
  refine HN.out.mono ?_
  rintro e w4 ⟨hb4, ⟨T, g, rfl, hch, ht, hT, hg, hTg⟩ | ⟨u, er, rfl, hch, her⟩⟩
  · have hG := hch.good.1
    have HG := Lib.hid hG
    have HB4 : Hid (Below W1.heap.size W1 w4) := Lib.hid (HB3.out.trans (hb4.mono HB3.out.size))
    have HAp9 := Lib.hid (HAp9.out T g w4 HB4.out ht hG)
    obtain ⟨x0, x1, x2, x3, x4, x5, y0, y1, y2, y3, y4, y5, y6, y7, y8, y9, y10⟩ := HX.out w4 HB4.out
    clear hb4 hch ht hT hg hTg HN hG HWa HRd HB3 HB3w
    go_wp2_with fail
    refine (HHv.out _ HB4.out).mono ?_
    rintro e w5 ⟨⟨b, rfl⟩, hb⟩
    have HB5 := Lib.hid (HTr.out HB4.out hb)
    have HD5 := Lib.hid hb
    clear hb x0 x1 x2 x3 x4 x5 y0 y1 y2 y3 y4 y5 y6 y7 y8 y9 y10 HHv
    cases b
    · obtain ⟨x0, x1, x2, x3, x4, x5, y0, y1, y2, y3, y4, y5, y6, y7, y8, y9, y10⟩ := HX.out w5 HB5.out
      go_wp2_with fail
      refine (HAp9.out w5 HD5.out).mono ?_
      rintro e w6 ⟨s2, rfl, hv2, ho2, hi2, hb, hb6⟩
      rename_i K1 hK1 K2 hK2
      have HK1 := Lib.hid hK1
      clear hK1
      have HB6 := Lib.hid hb6
      obtain ⟨pa, hpa⟩ : ∃ k, k = w6.heap.size := ⟨_, rfl⟩
      obtain ⟨w7, hw7⟩ : ∃ V, V = w6.alloc (.cells s2.val.cells 28) := ⟨_, rfl⟩
      have hb67 : Below w6.heap.size w6 w7 := hw7 ▸ (Below.refl _ _).alloc (Nat.le_refl _) _
      have HB7 := Lib.hid (HTr.out HB6.out hb67)
      have HD7 := Lib.hid ((HD5.out.trans (hb.mono HD5.out.size)).trans (hb67.mono (HD5.out.trans (hb.mono HD5.out.size)).size))
      have HI2 := Lib.hid (hi2.next hb67)
      have HV2 := Lib.hid hv2
      have HKa : Hid (Blk w7 pa 28 s2.val.cells) := Lib.hid (by rw [hw7, hpa]; exact Blk.new w6 _ _)
      clear hb hb6 hv2 ho2 hi2 hb67 HAp9
      have HS1 := Lib.hid (fun W (hW : Below w7.heap.size w7 W) => HIW.out W (HTr.out HB7.out hW))
      have HS2 := Lib.hid (fun W (hW : Below w7.heap.size w7 W) => HI2.out.next hW)
      clear HIW
      obtain ⟨me2, os2, ⟨F1, f1, j1⟩, es2, ⟨F2, f2, j2⟩, q2, as2, ⟨F3, f3, j3⟩, gs2, ⟨F4, f4, j4⟩⟩ := s2
      simp only [StL.val, Sl.val, Value.cells] at HKa hw7 ⊢
      have HZ : Hid (∀ W, Below w7.heap.size w7 W → W.cell? ⟨pa, 0, none⟩ = some (.int .i64 me2) ∧ W.cell? ⟨pa, 1, none⟩ = some (.slice F1 f1 j1) ∧ W.cell? ⟨pa, 2, none⟩ = some (.slice F2 f2 j2) ∧ W.cell? ⟨pa, 3, none⟩ = some (.int .i64 q2) ∧ W.cell? ⟨pa, 4, none⟩ = some (.slice F3 f3 j3) ∧ W.cell? ⟨pa, 5, none⟩ = some (.slice F4 f4 j4)) := Lib.hid (fun W hW => by
        have h1 := HKa.out.below hW HKa.out.lt
        exact ⟨h1.cell 0, h1.cell 1, h1.cell 2, h1.cell 3, h1.cell 4, h1.cell 5⟩)
      have HX7 : Hid (∀ W, Below w7.heap.size w7 W → W.cell? ⟨p, 0, none⟩ = some (.int .i64 me) ∧ W.cell? ⟨p, 1, none⟩ = some (.slice D1 d1 k1) ∧ W.cell? ⟨p, 2, none⟩ = some (.slice D2 d2 k2) ∧ W.cell? ⟨p, 3, none⟩ = some (.int .i64 q) ∧ W.cell? ⟨p, 4, none⟩ = some (.slice D3 d3 k3) ∧ W.cell? ⟨p, 5, none⟩ = some (.slice D4 d4 k4) ∧ W.cell? ⟨pe, 0, none⟩ = some (.int .i64 ek) ∧ W.cell? ⟨pe, 1, none⟩ = some (.int .i64 eo) ∧ W.cell? ⟨pe, 2, none⟩ = some (.int .i64 gf) ∧ W.cell? ⟨pe, 3, none⟩ = some (.int .i64 gt) ∧ W.cell? ⟨pe, 4, none⟩ = some (.int .i64 ga) ∧ W.cell? ⟨pe, 5, none⟩ = some (.int .i64 gs_) ∧ W.cell? ⟨pe, 6, none⟩ = some (.int .i64 mk) ∧ W.cell? ⟨pe, 7, none⟩ = some (.int .i64 mo) ∧ W.cell? ⟨pe, 8, none⟩ = some (.int .i64 mn) ∧ W.cell? ⟨pe, 9, none⟩ = some (.int .i64 mu) ∧ W.cell? ⟨pe, 10, none⟩ = some (.int .i64 mv)) := Lib.hid (fun W hW => HX.out W (HTr.out HB7.out hW))
      clear x0 x1 x2 x3 x4 x5 y0 y1 y2 y3 y4 y5 y6 y7 y8 y9 y10 HKa HX
      obtain ⟨x0, x1, x2, x3, x4, x5, y0, y1, y2, y3, y4, y5, y6, y7, y8, y9, y10⟩ := HX7.out w7 (Below.refl _ _)
      obtain ⟨z0, z1, z2, z3, z4, z5⟩ := HZ.out w7 (Below.refl _ _)
      go_wp2_with fail
      rw [← hw7, ← hpa]
      clear hw7 hpa
      refine HK1.out _ _ ?_
      clear HK1
      by_cases h0 : e2 = 0
      rotate_left
      · have t1 : (e2 == 0) = false := by simpa using h0
        have t3 : (e2 != 0) = true := by simpa using h0
        clear HT2
        go_wp2
        go_ret
        exact ⟨rfl, HB1.out.trans (HB7.out.mono HB1.out.size)⟩
      have h9 : (applyS ps (⟨me, os, ⟨D1, d1, k1⟩, es, ⟨D2, d2, k2⟩, q, as_, ⟨D3, d3, k3⟩, gs, ⟨D4, d4, k4⟩⟩ : StL).v (⟨ek, eo, ⟨gf, gt, ga, gs_, ⟨mk, mo, mn, mu, mv⟩⟩⟩ : Ev)).2.2 = 0 := by rw [← HT2.out]; exact h0
      obtain ⟨a1, a2, a3⟩ := applyS_zero h9
      have e3 : t2 = (stepS ps (⟨me, os, ⟨D1, d1, k1⟩, es, ⟨D2, d2, k2⟩, q, as_, ⟨D3, d3, k3⟩, gs, ⟨D4, d4, k4⟩⟩ : StL).v (⟨ek, eo, ⟨gf, gt, ga, gs_, ⟨mk, mo, mn, mu, mv⟩⟩⟩ : Ev)).1 := by rw [← a3, ← HT2.out]
      have e4 : n2 = (stepS ps (⟨me, os, ⟨D1, d1, k1⟩, es, ⟨D2, d2, k2⟩, q, as_, ⟨D3, d3, k3⟩, gs, ⟨D4, d4, k4⟩⟩ : StL).v (⟨ek, eo, ⟨gf, gt, ga, gs_, ⟨mk, mo, mn, mu, mv⟩⟩⟩ : Ev)).2.1 := by rw [← a3, ← HT2.out]
      subst h0
      have HL1 := Lib.hid HI2.out.os.len
      have HL2 := Lib.hid HI2.out.es.len
      have hgt := step_good HG.out a1 a2
      have hcnt := step_counts a1 a2
      obtain ⟨hone, harr⟩ := step_sends a1 a2
      rw [← e3, ← HV2.out] at hgt hone harr
      rw [← e3, ← HV2.out] at hcnt
      have l1 : f1 = d1 := by
        have h1 := HI2.out.os.len
        have h2 := (HS1.out w7 (Below.refl _ _)).os.len
        have h3 : (os2.map (·.v)).length = (os.map (·.v)).length := hcnt.os
        rw [List.length_map, List.length_map] at h3
        exact h1.symm.trans (h3.trans h2)
      have l2 : f2 = d2 := by
        have h1 := HI2.out.es.len
        have h2 := (HS1.out w7 (Below.refl _ _)).es.len
        have h3 := congrArg List.length hcnt.ps_
        rw [List.length_map, List.length_map] at h3
        have h3 : (es2.map (·.v)).length = (es.map (·.v)).length := h3
        rw [List.length_map, List.length_map] at h3
        exact h1.symm.trans (h3.trans h2)
      subst l1; subst l2
      obtain ⟨J, D, hD, hends⟩ := hone
      have hfew : f1 * 40 ≤ 140737488351232 := (HS1.out w7 (Below.refl _ _)).os.few
      have hfew2 : f2 * 48 ≤ 140737488351232 := (HS1.out w7 (Below.refl _ _)).es.few
      have HLo : Hid (os.length = f1) := Lib.hid (HS1.out w7 (Below.refl _ _)).os.len
      have HLe : Hid (es.length = f2) := Lib.hid (HS1.out w7 (Below.refl _ _)).es.len
      obtain ⟨sv, hsv⟩ : ∃ x, x = (⟨me, os, ⟨D1, f1, k1⟩, es, ⟨D2, f2, k2⟩, q, as_, ⟨D3, d3, k3⟩, gs, ⟨D4, d4, k4⟩⟩ : StL).v := ⟨_, rfl⟩
      obtain ⟨tv, htv⟩ : ∃ x, x = (⟨me2, os2, ⟨F1, f1, j1⟩, es2, ⟨F2, f2, j2⟩, q2, as2, ⟨F3, f3, j3⟩, gs2, ⟨F4, f4, j4⟩⟩ : StL).v := ⟨_, rfl⟩
      have HSd : Hid (∀ (i : Nat) (r r2 : SdL), es[i]? = some r → es2[i]? = some r2 → (r2.v.b + (r2.v.o.length : Int) = r.v.b + (r.v.o.length : Int) + (if i = J then D else 0)) ∧ (sideA sv i).s = r.v.s ∧ (sideA tv i).s = r2.v.s ∧ (0 ≤ r.v.b ∧ r.v.b + (r.v.o.length : Int) ≤ 1099511627776) ∧ (0 ≤ r2.v.b ∧ r2.v.b + (r2.v.o.length : Int) ≤ 1099511627776)) := Lib.hid (fun i r r2 h1 h2 => by
        have q1 : sideA (⟨me, os, ⟨D1, f1, k1⟩, es, ⟨D2, f2, k2⟩, q, as_, ⟨D3, d3, k3⟩, gs, ⟨D4, d4, k4⟩⟩ : StL).v i = r.v := sideA_v h1
        have q2 : sideA (⟨me2, os2, ⟨F1, f1, j1⟩, es2, ⟨F2, f2, j2⟩, q2, as2, ⟨F3, f3, j3⟩, gs2, ⟨F4, f4, j4⟩⟩ : StL).v i = r2.v := sideA_v h2
        have h := hends i
        unfold endN at h
        rw [q1, q2] at h
        exact ⟨h, by rw [hsv, q1], by rw [htv, q2], side_bound a1 h1, side_bound hgt h2⟩)
      have HTk : Hid (TookN sv tv f2 ↔ TookS sv tv) := Lib.hid (by
        unfold TookN TookS
        have e : sv.es.length = f2 := by
          rw [hsv]
          show (es.map (·.v)).length = _
          rw [List.length_map, HLe.out]
        rw [e])
      have HAr : Hid (∀ (i : Nat) (r r2 : OwL), os[i]? = some r → os2[i]? = some r2 → (ek = 1 ∧ eo = (i : Int) → r2.v.a = me) ∧ (¬ (ek = 1 ∧ eo = (i : Int)) → (ek = 4 ∧ TookS sv tv ∧ mk = 1 ∧ mo = (i : Int) ∧ mn ≠ me) → r2.v.a = gf) ∧ (¬ (ek = 1 ∧ eo = (i : Int)) → ¬ (ek = 4 ∧ TookS sv tv ∧ mk = 1 ∧ mo = (i : Int) ∧ mn ≠ me) → r2.v.a = r.v.a)) := Lib.hid (fun i r r2 h1 h2 => by
        have q1 : objA (⟨me, os, ⟨D1, f1, k1⟩, es, ⟨D2, f2, k2⟩, q, as_, ⟨D3, d3, k3⟩, gs, ⟨D4, d4, k4⟩⟩ : StL).v i = r.v := objA_v h1
        have q2 : objA (⟨me2, os2, ⟨F1, f1, j1⟩, es2, ⟨F2, f2, j2⟩, q2, as2, ⟨F3, f3, j3⟩, gs2, ⟨F4, f4, j4⟩⟩ : StL).v i = r2.v := objA_v h2
        have h := harr i (by
          show i < (os.map (·.v)).length
          rw [List.length_map]; exact (List.getElem?_eq_some_iff.1 h1).1)
        rw [q1, q2] at h
        rw [hsv, htv]
        exact h)
      have HD := Lib.hid hD
      clear hcnt hgt hends harr hsv htv a1 a2 a3 e3 e4 h9 HT2 HV2 HI2 HD5 HD7 hD
      go_wp2_with fail
      go_loopw [11, 12, 46] (fun x tk j wr => ∃ (i : Nat) (b : Bool), j = .int .i64 i ∧ i ≤ f2 ∧ x = .int .i64 (if J < i then D else 0) ∧ tk = .bool b ∧ (b = true ↔ TookN sv tv i) ∧ Below w7.heap.size w7 wr) (fun _ _ j _ => f2 - (intOf j).toNat)
      case atStart => exact ⟨0, false, rfl, by omega, by rw [if_neg (by omega)], rfl, ⟨fun h => (by cases h), fun ⟨i, hi, _⟩ => (by omega)⟩, Below.refl _ _⟩
      case round =>
        obtain ⟨i, tb, rfl, hi, rfl, rfl, htb, hb⟩ := hrel
        obtain ⟨w8, rfl⟩ : ∃ w1 : World, w1 = wr := ⟨_, rfl⟩
        have HB8 := Lib.hid hb
        have HTb := Lib.hid htb
        clear hb htb x0 x1 x2 x3 x4 x5 y0 y1 y2 y3 y4 y5 y6 y7 y8 y9 y10 z0 z1 z2 z3 z4 z5
        by_cases hlt : i < f2
        · obtain ⟨b', off', eb', _, hc'⟩ := sdR.spots (HS2.out w8 HB8.out).es.rd (show 0 < f2 by omega)
          subst eb'
          have hil : i < es.length := by rw [HLe.out]; exact hlt
          have hil2 : i < es2.length := by rw [HL2.out]; exact hlt
          have hg : es[i]? = some es[i] := List.getElem?_eq_getElem hil
          have hg2 : es2[i]? = some es2[i] := List.getElem?_eq_getElem hil2
          obtain ⟨r, hr⟩ : ∃ r, r = es[i] := ⟨_, rfl⟩
          obtain ⟨r2, hr2⟩ : ∃ r, r = es2[i] := ⟨_, rfl⟩
          rw [← hr] at hg
          rw [← hr2] at hg2
          obtain ⟨hend, hs1, hs2, ⟨hb1, hb2⟩, ⟨hb3, hb4⟩⟩ := HSd.out i r r2 hg hg2
          have ho1 := ((HS1.out w8 HB8.out).e r (List.mem_of_getElem? hg)).o.len
          have ho2 := ((HS2.out w8 HB8.out).e r2 (List.mem_of_getElem? hg2)).o.len
          have HT1 := Lib.hid (tookN_succ (s := sv) (t := tv) (n := i))
          rw [hs1, hs2] at HT1
          have u0 := hc' i r2 hg2 0 _ rfl
          have u1 := hc' i r2 hg2 1 _ rfl
          have u2 := hc' i r2 hg2 2 _ rfl
          have u3 := hc' i r2 hg2 3 _ rfl
          obtain ⟨⟨rp2, rb2, ro2, rs2⟩, ⟨A6, n6, c6⟩⟩ := r2
          have HB8a : Hid (Below w7.heap.size w7 (w8.alloc (.cells #[.int .i64 rp2, .int .i64 rb2, .slice A6 n6 c6, .int .i64 rs2] 50))) := Lib.hid (HB8.out.alloc HB8.out.size _)
          obtain ⟨b, off, eb, _, hc⟩ := sdR.spots (HS1.out _ HB8a.out).es.rd (show 0 < f2 by omega)
          subst eb
          have m0 := hc i r hg 0 _ rfl
          have m1 := hc i r hg 1 _ rfl
          have m2 := hc i r hg 2 _ rfl
          have m3 := hc i r hg 3 _ rfl
          obtain ⟨⟨rp, rb, ro, rs⟩, ⟨A5, n5, c5⟩⟩ := r
          simp only [sdR, Nat.add_zero, Sl.val, ← Nat.add_assoc] at m0 m1 m2 m3 u0 u1 u2 u3 hend hs1 hs2 hb1 hb2 hb3 hb4 ho1 ho2 HT1
          have HB8b : Hid (Below w7.heap.size w7 ((w8.alloc (.cells #[.int .i64 rp2, .int .i64 rb2, .slice A6 n6 c6, .int .i64 rs2] 50)).alloc (.cells #[.int .i64 rp, .int .i64 rb, .slice A5 n5 c5, .int .i64 rs] 50))) := Lib.hid (HB8a.out.alloc HB8a.out.size _)
          obtain ⟨_, _, xe, _⟩ := HX7.out _ HB8a.out
          have hbk : Blk ((w8.alloc (.cells #[.int .i64 rp2, .int .i64 rb2, .slice A6 n6 c6, .int .i64 rs2] 50)).alloc (.cells #[.int .i64 rp, .int .i64 rb, .slice A5 n5 c5, .int .i64 rs] 50)) w8.heap.size 50 #[.int .i64 rp2, .int .i64 rb2, .slice A6 n6 c6, .int .i64 rs2] := (Blk.new w8 _ _).alloc _
          have hbl := Blk.new (w8.alloc (.cells #[.int .i64 rp2, .int .i64 rb2, .slice A6 n6 c6, .int .i64 rs2] 50)) 50 #[.int .i64 rp, .int .i64 rb, .slice A5 n5 c5, .int .i64 rs]
          rw [World.size_alloc] at hbl
          have k1 := hbk.cell 1
          have k2 := hbk.cell 2
          have k3 := hbk.cell 3
          have l1 := hbl.cell 1
          have l2 := hbl.cell 2
          have l3 := hbl.cell 3
          simp only [List.getElem?_toArray, List.getElem?_cons_succ, List.getElem?_cons_zero] at k1 k2 k3 l1 l2 l3
          obtain ⟨P, hP⟩ : ∃ P : Int, P = (if J < i then D else 0) := ⟨_, rfl⟩
          obtain ⟨dl, hdl⟩ : ∃ P : Int, P = (if i = J then D else 0) := ⟨_, rfl⟩
          rw [← hP]
          rw [← hdl] at hend
          have hN : P + dl = (if J < i + 1 then D else 0) := by
            rw [hP, hdl]
            rcases Nat.lt_trichotomy J i with h | h | h
            · rw [if_pos h, if_neg (by omega), if_pos (by omega)]; omega
            · rw [if_neg (by omega), if_pos h.symm, if_pos (by omega)]; omega
            · rw [if_neg (by omega), if_neg (by omega), if_neg (by omega)]; omega
          have HN := Lib.hid hN
          have hP1 : P = 0 ∨ P = 1 := by rw [hP]; have := HD.out; split <;> omega
          have hd1 : dl = 0 ∨ dl = 1 := by rw [hdl]; have := HD.out; split <;> omega
          have hx1 : rb2 + (n6 : Int) - rb - (n5 : Int) = dl := by rw [← ho1, ← ho2]; omega
          have hn5 : rb + (n5 : Int) ≤ 1099511627776 := by rw [← ho1]; exact hb2
          have hn6 : rb2 + (n6 : Int) ≤ 1099511627776 := by rw [← ho2]; exact hb4
          clear hc hc' hr hr2 hg hg2 hend ho1 ho2 hb2 hb4 hP hdl hN hbk hbl hs1 hs2
          cases tb
          · by_cases hs : rs2 = rs
            · subst hs
              go_wp2
              go_roundw
              case rel => exact ⟨i + 1, false, by go_num, by omega, by rw [← HN.out, ← hx1], rfl, ⟨fun h => (by cases h), fun h => (by rcases HT1.out.1 h with h | h; exact HTb.out.2 h; exact absurd rfl h)⟩, HB8b.out⟩
              case measure => simp [intOf]; omega
            · have t1 : (rs2 == rs) = false := by simpa using hs
              have t2 : (rs2 != rs) = true := by simpa using hs
              go_wp2
              go_roundw
              case rel => exact ⟨i + 1, true, by go_num, by omega, by rw [← HN.out, ← hx1], rfl, ⟨fun _ => HT1.out.2 (.inr hs), fun _ => rfl⟩, HB8b.out⟩
              case measure => simp [intOf]; omega
          · go_wp2
            go_roundw
            case rel => exact ⟨i + 1, true, by go_num, by omega, by rw [← HN.out, ← hx1], rfl, ⟨fun _ => HT1.out.2 (.inl (HTb.out.1 rfl)), fun _ => rfl⟩, HB8b.out⟩
            case measure => simp [intOf]; omega
        · obtain ⟨P, hP⟩ : ∃ P : Int, P = (if J < i then D else 0) := ⟨_, rfl⟩
          have hP1 : P = 0 ∨ P = 1 := by rw [hP]; have := HD.out; split <;> omega
          rw [← hP]
          have hif : i = f2 := by omega
          have HTs : Hid (tb = true ↔ TookS sv tv) := Lib.hid (by rw [← HTk.out, ← hif]; exact HTb.out)
          obtain ⟨x0, x1, x2, x3, x4, x5, y0, y1, y2, y3, y4, y5, y6, y7, y8, y9, y10⟩ := HX7.out w8 HB8.out
          clear hP hif HTb HTk HSd HD
          go_wp2_with fail
          go_loopw [88] (fun j wr => ∃ i : Nat, j = .int .i64 i ∧ i ≤ f1 ∧ Below w7.heap.size w7 wr) (fun j _ => f1 - (intOf j).toNat)
          case atStart => exact ⟨0, rfl, by omega, HB8.out⟩
          case round =>
            clear HB8 x0 x1 x2 x3 x4 x5 y0 y1 y2 y3 y4 y5 y6 y7 y8 y9 y10
            obtain ⟨i, rfl, hi, hb⟩ := hrel
            obtain ⟨w8, rfl⟩ : ∃ w1 : World, w1 = wr := ⟨_, rfl⟩
            have HB8 := Lib.hid hb
            clear hb
            obtain ⟨x0, x1, x2, x3, x4, x5, y0, y1, y2, y3, y4, y5, y6, y7, y8, y9, y10⟩ := HX7.out w8 HB8.out
            obtain ⟨z0, z1, z2, z3, z4, z5⟩ := HZ.out w8 HB8.out
            by_cases hlt : i < f1
            · obtain ⟨b, off, eb, _, hc⟩ := owR.spots (HS1.out w8 HB8.out).os.rd (show 0 < f1 by omega)
              obtain ⟨b', off', eb', _, hc'⟩ := owR.spots (HS2.out w8 HB8.out).os.rd (show 0 < f1 by omega)
              subst eb; subst eb'
              have hil : i < os.length := by rw [HLo.out]; exact hlt
              have hil2 : i < os2.length := by rw [HL1.out]; exact hlt
              have hg : os[i]? = some os[i] := List.getElem?_eq_getElem hil
              have hg2 : os2[i]? = some os2[i] := List.getElem?_eq_getElem hil2
              obtain ⟨r, hr⟩ : ∃ r, r = os[i] := ⟨_, rfl⟩
              obtain ⟨r2, hr2⟩ : ∃ r, r = os2[i] := ⟨_, rfl⟩
              rw [← hr] at hg
              rw [← hr2] at hg2
              obtain ⟨ha1, ha2, ha3⟩ := HAr.out i r r2 hg hg2
              have m0 := hc i r hg 0 _ rfl
              have u0 := hc' i r2 hg2 0 _ rfl
              obtain ⟨⟨ra, rm, rc⟩, ⟨A1, n1, c1⟩⟩ := r
              obtain ⟨⟨ra2, rm2, rc2⟩, ⟨A2, n2', c2⟩⟩ := r2
              simp only [owR, Nat.add_zero, Sl.val] at m0 u0 ha1 ha2 ha3
              rw [← HTs.out] at ha2 ha3
              clear hc hc' hr hr2 hg hg2
              by_cases h1 : ek = 1
              · by_cases h2 : eo = (i : Int)
                · have e := ha1 ⟨h1, h2⟩
                  subst h1; subst h2; subst e
                  clear ha1 ha2 ha3
                  go_wp2
                  go_quiet (fail)
                  go_wp2
                  go_roundw
                  case rel => exact ⟨i + 1, by go_num, by omega, below_drewC HB8.out _⟩
                  case measure => simp [intOf]; omega
                · have e := ha3 (fun q => h2 q.2) (fun q => by have := q.1; omega)
                  have t2 : (eo == (i : Int)) = false := by simpa using h2
                  subst h1; subst e
                  clear ha1 ha2 ha3
                  go_wp2
                  go_quiet (fail)
                  go_wp2
                  go_roundw
                  case rel => exact ⟨i + 1, by go_num, by omega, below_drewC HB8.out _⟩
                  case measure => simp [intOf]; omega
              · have t1 : (ek == 1) = false := by simpa using h1
                have ha2 := ha2 (fun q => h1 q.1)
                have ha3 := ha3 (fun q => h1 q.1)
                by_cases h4 : ek = 4
                · subst h4
                  cases tb
                  · have e := ha3 (fun q => by cases q.2.1)
                    subst e
                    clear ha1 ha2 ha3
                    go_wp2
                    go_quiet (fail)
                    go_wp2
                    go_roundw
                    case rel => exact ⟨i + 1, by go_num, by omega, below_drewC HB8.out _⟩
                    case measure => simp [intOf]; omega
                  · by_cases h5 : mk = 1
                    · by_cases h6 : mo = (i : Int)
                      · by_cases h7 : mn = me
                        · have e := ha3 (fun q => q.2.2.2.2 h7)
                          subst h5; subst h6; subst e; subst h7
                          clear ha1 ha2 ha3
                          go_wp2
                          go_quiet (fail)
                          go_wp2
                          go_roundw
                          case rel => exact ⟨i + 1, by go_num, by omega, below_drewC HB8.out _⟩
                          case measure => simp [intOf]; omega
                        · have e := ha2 ⟨rfl, rfl, h5, h6, h7⟩
                          have t7 : (mn == me) = false := by simpa using h7
                          have t8 : (mn != me) = true := by simpa using h7
                          subst h5; subst h6; subst e
                          clear ha1 ha2 ha3
                          go_wp2
                          go_quiet (fail)
                          go_wp2
                          go_roundw
                          case rel => exact ⟨i + 1, by go_num, by omega, below_drewC HB8.out _⟩
                          case measure => simp [intOf]; omega
                      · have e := ha3 (fun q => h6 q.2.2.2.1)
                        have t6 : (mo == (i : Int)) = false := by simpa using h6
                        subst h5; subst e
                        clear ha1 ha2 ha3
                        go_wp2
                        go_quiet (fail)
                        go_wp2
                        go_roundw
                        case rel => exact ⟨i + 1, by go_num, by omega, below_drewC HB8.out _⟩
                        case measure => simp [intOf]; omega
                    · have e := ha3 (fun q => h5 q.2.2.1)
                      have t5 : (mk == 1) = false := by simpa using h5
                      subst e
                      clear ha1 ha2 ha3
                      go_wp2
                      go_quiet (fail)
                      go_wp2
                      go_roundw
                      case rel => exact ⟨i + 1, by go_num, by omega, below_drewC HB8.out _⟩
                      case measure => simp [intOf]; omega
                · have e := ha3 (fun q => h4 q.1)
                  have t4 : (ek == 4) = false := by simpa using h4
                  subst e
                  clear ha1 ha2 ha3
                  go_wp2
                  go_quiet (fail)
                  go_wp2
                  go_roundw
                  case rel => exact ⟨i + 1, by go_num, by omega, below_drewC HB8.out _⟩
                  case measure => simp [intOf]; omega
            · have hend := HB1.out.trans ((HTr.out HB7.out HB8.out).mono HB1.out.size)
              go_wp2
              go_ret
              exact ⟨rfl, hend⟩
    · go_wp2
      go_ret
      exact ⟨rfl, HB1.out.trans (HB5.out.mono HB1.out.size)⟩
  · have t1 : (er == 0) = false := by simpa using her
    have t2 : (er != 0) = true := by simpa using her
    have HB4 := Lib.hid (HB3w.out.trans (hb4.mono HB3w.out.size))
    clear hb4 hch her
    go_wp2
    go_ret
    exact ⟨rfl, HB4.out⟩
end Go.Proofs.Ytiaafhcfeeekeaa.Pk
