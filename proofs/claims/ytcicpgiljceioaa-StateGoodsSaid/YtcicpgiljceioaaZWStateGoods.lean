/- The walk of the law StateGoods. -/
import Derived.Test.YtcicpgiljceioaaZWiEq
import Derived.Test.YtcicpgiljceioaaZStGood
import Derived.Test.YtcicpgiljceioaaZStArgN
import Derived.Deep.RegionHeld3
import Derived.Deep.DeepMust
namespace Go.Proofs.Ytcicpgiljceioaa.Pk
open Go.RowKit Go.Proofs.Ytcicpgiljceioaa.Gr Go.Proofs.Ytcicpgiljceioaa.Ar
set_option linter.unusedVariables false
set_option maxRecDepth 100000 in
set_option maxHeartbeats 8000000 in
theorem law_StateGoods (HFi : StFirstP) (HGo : StGoodP) (HGz : StGoodZ) (HOp : StOpenP) (A : Option Addr) (n c : Nat) (ps : List Int) (s : StL) (w : World) (hk : ArgN w A n c ps) (hs : InS w s) :
    Calls Try.prog 4 #[.slice A n c, s.val] w fun e w' => e = .returned (.bool true) ∧ Below w.heap.size w w' := by
  have HW := Lib.hid (fun w => wakesS HFi HGo w)
  have HRd := Lib.hid hk.1
  have hn : n ≤ 4611686018427387904 := by have h1 := hk.2.1; have h2 := hk.2.2.1; omega
  have HL : Hid (ps.length = n) := Lib.hid hk.1.plen
  have HI := Lib.hid hs
  have HGo := Lib.hid HGo
  clear hk hs
  obtain ⟨p, hp⟩ : ∃ p, p = w.heap.size := ⟨_, rfl⟩
  obtain ⟨W1, hW1⟩ : ∃ W1, W1 = w.alloc (.cells s.val.cells 30) := ⟨_, rfl⟩
  have HB1 : Hid (Below w.heap.size w W1) := Lib.hid (hW1 ▸ (Below.refl _ _).alloc (Nat.le_refl _) _)
  have HKp : Hid (Blk W1 p 30 s.val.cells) := Lib.hid (by rw [hW1, hp]; exact Blk.new w _ _)
  obtain ⟨x, hx⟩ : ∃ x, x = openW s.v.os := ⟨_, rfl⟩
  have tr : ∀ {W w' : World}, Below W1.heap.size W1 W → Below W.heap.size W w' → Below W1.heap.size W1 w' := fun h k => h.trans (k.mono h.size)
  have HIW := Lib.hid (fun W (hW : Below W1.heap.size W1 W) => HI.out.next (HB1.out.trans (hW.mono HB1.out.size)))
  have HWa : Hid (∀ W, Below W1.heap.size W1 W → Calls Try.prog 9 #[] W fun e w' => e = .returned (.bool true) ∧ Below W1.heap.size W1 w') := Lib.hid (fun W hW => (HW.out W).mono fun e w' h => ⟨h.1, tr hW h.2⟩)
  have HZ : Hid (∀ W, Below W1.heap.size W1 W → Calls Try.prog 16 #[.pointer none, s.val] W fun e w' => e = .returned (.bool false) ∧ Below W1.heap.size W1 w') := Lib.hid (fun W hW => (HGz s W (HIW.out W hW)).mono fun e w' h => ⟨h.1, tr hW h.2⟩)
  have HO : Hid (∀ W, Below W1.heap.size W1 W → Calls Try.prog 17 #[s.val] W fun e w' => e = .returned (.int .i64 x) ∧ Below W1.heap.size W1 w') := Lib.hid (fun W hW => (HOp s W (HIW.out W hW)).mono fun e w' h => ⟨by rw [hx]; exact h.1, tr hW h.2⟩)
  have HR : Hid (∀ W, Below W1.heap.size W1 W → Calls Try.prog 18 #[s.val] W fun e w' => e = .returned (.int .i64 x) ∧ Below W1.heap.size W1 w') := Lib.hid (fun W hW => (refopens_any s W (HIW.out W hW)).mono fun e w' h => ⟨by rw [hx]; exact h.1, tr hW h.2⟩)
  have HG9 : Hid (∀ (T g : Nat) (W0 : World), Below W1.heap.size W1 W0 → IsTr W0 T g ps → Gr.Good ps → ∀ W, Below W0.heap.size W0 W → Calls Try.prog 16 #[.pointer (some ⟨T, 0, none⟩), s.val] W fun e w' => ∃ b, e = .returned (.bool b) ∧ (b = true ↔ GoodS ps s.v) ∧ Below W1.heap.size W1 w') := Lib.hid (fun T g W0 h0 ht G W hW => (HGo.out T g ps s W (ht.below_ hW) G (HIW.out W (tr h0 hW))).mono fun e w' ⟨b, h1, h2, h3⟩ => ⟨b, h1, h2, tr (tr h0 hW) h3⟩)
  have HR9 : Hid (Gr.Good ps → ∀ W, Below W1.heap.size W1 W → Calls Try.prog 19 #[.slice A n c, s.val] W fun e w' => ∃ b, e = .returned (.bool b) ∧ (b = true ↔ GoodS ps s.v) ∧ Below W1.heap.size W1 w') := Lib.hid (fun G W hW => (refgoods_any A n c ps s W ((HRd.out.below (HB1.out.trans (hW.mono HB1.out.size))).more (HB1.out.trans (hW.mono HB1.out.size)).size) G (HIW.out W hW)).mono fun e w' ⟨b, h1, h2, h3⟩ => ⟨b, h1, h2, tr hW h3⟩)
  obtain ⟨GG, hGG⟩ : ∃ P, P = GoodS ps s.v := ⟨_, rfl⟩
  rw [← hGG] at HG9 HR9
  clear hx tr HW HI HIW HGo hGG HOp HGz
  obtain ⟨me, os, ⟨D1, d1, k1⟩, es, ⟨D2, d2, k2⟩, q, as_, ⟨D3, d3, k3⟩, gs, ⟨D4, d4, k4⟩⟩ := s
  simp only [StL.val, Sl.val, Value.cells] at HKp HZ HO HR HG9 HR9 hW1 ⊢
  have HX : Hid (∀ W, Below W1.heap.size W1 W → W.cell? ⟨p, 0, none⟩ = some (.int .i64 me) ∧ W.cell? ⟨p, 1, none⟩ = some (.slice D1 d1 k1) ∧ W.cell? ⟨p, 2, none⟩ = some (.slice D2 d2 k2) ∧ W.cell? ⟨p, 3, none⟩ = some (.int .i64 q) ∧ W.cell? ⟨p, 4, none⟩ = some (.slice D3 d3 k3) ∧ W.cell? ⟨p, 5, none⟩ = some (.slice D4 d4 k4)) := Lib.hid (fun W hW => by
    have h1 := HKp.out.below hW HKp.out.lt
    exact ⟨h1.cell 0, h1.cell 1, h1.cell 2, h1.cell 3, h1.cell 4, h1.cell 5⟩)
  have HB2 : Hid (Below W1.heap.size W1 W1.drew) := Lib.hid (below_drewC (Below.refl _ _) 1)
  have X2 := HX.out W1.drew HB2.out
  have X1 := HX.out W1 (Below.refl _ _)
  go_enter Try.func4, Try.ntmps4
  go_wp2_with fail
  rw [← hW1, ← hp]
  clear hW1 hp
  go_region_held3 (fun W => W.cell? ⟨p, 0, none⟩ = some (.int .i64 me) ∧ W.cell? ⟨p, 1, none⟩ = some (.slice D1 d1 k1) ∧ W.cell? ⟨p, 2, none⟩ = some (.slice D2 d2 k2) ∧ W.cell? ⟨p, 3, none⟩ = some (.int .i64 q) ∧ W.cell? ⟨p, 4, none⟩ = some (.slice D3 d3 k3) ∧ W.cell? ⟨p, 5, none⟩ = some (.slice D4 d4 k4)) (first | with_reducible exact X1 | with_reducible exact X2 | with_reducible exact X3 | with_reducible exact X4 | with_reducible exact X5 | with_reducible exact X6 | (trace_state; fail)) (first
    | (go_at_call 9; go_must (refine (HWa.out _ HB2.out).mono ?_; rintro e w3 ⟨rfl, hb⟩; have HB3 := Lib.hid hb; have X3 := HX.out w3 HB3.out; clear hb))
    | (go_at_call 16; go_must (refine (HZ.out _ HB3.out).mono ?_; rintro e w4 ⟨rfl, hb⟩; have HB4 := Lib.hid hb; have X4 := HX.out w4 HB4.out; clear hb))
    | (go_at_call 17; go_must (refine (HO.out _ HB4.out).mono ?_; rintro e w5 ⟨rfl, hb⟩; have HB5 := Lib.hid hb; have X5 := HX.out w5 HB5.out; clear hb))
    | (go_at_call 18; go_must (refine (HR.out _ HB5.out).mono ?_; rintro e w6 ⟨rfl, hb⟩; have HB6 := Lib.hid hb; have X6 := HX.out w6 HB6.out; clear hb)))
  all_goals
    have HB6w := Lib.hid (HB1.out.trans (HB6.out.mono HB1.out.size))
    have HN := Lib.hid (new_any A n c ps w6 w.heap.size (HRd.out.below HB6w.out) HB6w.out.size hn)
    clear X1 X2 X3 X4 X5 X6
    go_wp2_with fail
    refine HN.out.mono ?_
    rintro e w7 ⟨hb7, ⟨T, g, rfl, hch, ht, hT, hg, hTg⟩ | ⟨u, er, rfl, hch, her⟩⟩
    · have hG := hch.good.1
      have HB7 : Hid (Below W1.heap.size W1 w7) := Lib.hid (HB6.out.trans (hb7.mono HB6.out.size))
      have HG9 := Lib.hid (HG9.out T g w7 HB7.out ht hG)
      have HR9 := Lib.hid (HR9.out hG)
      have Y1 := HX.out w7 HB7.out
      have HB7d := Lib.hid (below_drewC HB7.out 1)
      have HD7 : Hid (Below w7.heap.size w7 w7.drew) := Lib.hid (below_drewC (Below.refl _ _) 1)
      have Y2 := HX.out w7.drew HB7d.out
      clear hb7 hch ht hT hg hTg HN hG
      go_wp2_with fail
      go_region_held3 (fun W => W.cell? ⟨p, 0, none⟩ = some (.int .i64 me) ∧ W.cell? ⟨p, 1, none⟩ = some (.slice D1 d1 k1) ∧ W.cell? ⟨p, 2, none⟩ = some (.slice D2 d2 k2) ∧ W.cell? ⟨p, 3, none⟩ = some (.int .i64 q) ∧ W.cell? ⟨p, 4, none⟩ = some (.slice D3 d3 k3) ∧ W.cell? ⟨p, 5, none⟩ = some (.slice D4 d4 k4)) (first | with_reducible exact Y1 | with_reducible exact Y2 | with_reducible exact Y3 | with_reducible exact Y4 | (trace_state; fail)) (first
        | (go_at_call 16; go_must (refine (HG9.out _ HD7.out).mono ?_; rintro e w8 ⟨b1, rfl, hb1, hb⟩; have HB8 := Lib.hid hb; have HBa := Lib.hid hb1; have Y3 := HX.out w8 HB8.out; clear hb hb1))
        | (go_at_call 19; go_must (refine (HR9.out _ HB8.out).mono ?_; rintro e w9 ⟨b2, rfl, hb2, hb⟩; have HB9 := Lib.hid hb; obtain rfl := Bool.eq_iff_iff.2 (HBa.out.trans hb2.symm); have Y4 := HX.out w9 HB9.out; clear hb hb2)))
      all_goals
        go_wp2
        go_ret
        exact ⟨by first | rfl | simp, HB1.out.trans (HB9.out.mono HB1.out.size)⟩
    · have t1 : (er == 0) = false := by simpa using her
      have t2 : (er != 0) = true := by simpa using her
      have HB7 := Lib.hid (HB6w.out.trans (hb7.mono HB6w.out.size))
      have her9 := hch.code
      clear hb7 hch her
      go_wp2
      go_ret
      exact ⟨rfl, HB7.out⟩
end Go.Proofs.Ytcicpgiljceioaa.Pk
