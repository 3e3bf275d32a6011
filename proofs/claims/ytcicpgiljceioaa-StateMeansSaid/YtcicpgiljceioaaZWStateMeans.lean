/- The walk of the law StateMeans. -/
import Derived.Test.YtcicpgiljceioaaZWiEq
import Derived.Test.YtcicpgiljceioaaZStMeant
import Derived.Test.YtcicpgiljceioaaZStArgN
import Derived.Deep.RegionHeld3
import Derived.Deep.DeepMust
namespace Go.Proofs.Ytcicpgiljceioaa.Pk
open Go.RowKit Go.Proofs.Ytcicpgiljceioaa.Gr Go.Proofs.Ytcicpgiljceioaa.Ar
set_option linter.unusedVariables false
set_option maxRecDepth 100000 in
set_option maxHeartbeats 4000000 in
theorem law_StateMeans (HFi : StFirstP) (HGo : StGoodP) (HMe : StMeantP) (HMz : StMeantZ) (A : Option Addr) (n c : Nat) (ps : List Int) (k : Int) (m : Mg) (w : World) (hk : ArgN w A n c ps) (hi : I64 k) (hm : m.I) :
    Calls Try.prog 5 #[.slice A n c, .int .i64 k, m.val] w fun e w' => e = .returned (.bool true) ∧ Below w.heap.size w w' := by
  have HW := Lib.hid (fun w => wakesS HFi HGo w)
  have HRd := Lib.hid hk.1
  have hn : n ≤ 4611686018427387904 := by have h1 := hk.2.1; have h2 := hk.2.2.1; omega
  have HL : Hid (ps.length = n) := Lib.hid hk.1.plen
  have HMe := Lib.hid (fun T g w (h1 : IsTr w T g ps) (h2 : Gr.Good ps) => HMe T g ps k m w h1 h2 hi hm)
  have HMz := Lib.hid (fun w => HMz k m w hi hm)
  have HRe := Lib.hid (fun w => refmeant_any (n : Int) k m w)
  clear hk hi hm
  obtain ⟨mk, mo, mn, mu, mv⟩ := m
  simp only [Mg.val] at HMe HMz HRe ⊢
  have HB1 : Hid (Below w.heap.size w (w.alloc (.cells #[.int .i64 mk, .int .i64 mo, .int .i64 mn, .int .i64 mu, .int .i64 mv] 45))) := Lib.hid ((Below.refl _ _).alloc (Nat.le_refl _) _)
  obtain ⟨W1, hW1⟩ : ∃ W, W = w.alloc (.cells #[.int .i64 mk, .int .i64 mo, .int .i64 mn, .int .i64 mu, .int .i64 mv] 45) := ⟨_, rfl⟩
  obtain ⟨p, hp⟩ : ∃ p, p = w.heap.size := ⟨_, rfl⟩
  have HK : Hid (Blk W1 p 45 #[.int .i64 mk, .int .i64 mo, .int .i64 mn, .int .i64 mu, .int .i64 mv]) := Lib.hid (by rw [hW1, hp]; exact Blk.new w _ _)
  rw [← hW1] at HB1
  go_enter Try.func5, Try.ntmps5
  go_wp2_with fail
  rw [← hW1, ← hp]
  clear hW1 hp
  refine (HW.out W1).mono ?_
  rintro e w2 ⟨rfl, hb2⟩
  have HB2 := Lib.hid (HB1.out.trans (hb2.mono HB1.out.size))
  have HK2 := Lib.hid (HK.out.below hb2 HK.out.lt)
  have HN := Lib.hid (new_any A n c ps w2 w.heap.size (HRd.out.below HB2.out) HB2.out.size hn)
  clear hb2
  go_wp2_with fail
  refine HN.out.mono ?_
  rintro e w3 ⟨hb3, ⟨T, g, rfl, hch, ht, hT, hg, hTg⟩ | ⟨q, er, rfl, hch, her⟩⟩
  · have HG := Lib.hid hch.good.1
    have HB3 := Lib.hid (HB2.out.trans (hb3.mono HB2.out.size))
    have HK3 := Lib.hid (HK2.out.below hb3 HK2.out.lt)
    have HT3 := Lib.hid ht
    have HM3 := Lib.hid (HMe.out T g w3 ht HG.out)
    have HX : Hid (∀ W, Below w3.heap.size w3 W → W.cell? ⟨p, 0, none⟩ = some (.int .i64 mk) ∧ W.cell? ⟨p, 1, none⟩ = some (.int .i64 mo) ∧ W.cell? ⟨p, 2, none⟩ = some (.int .i64 mn) ∧ W.cell? ⟨p, 3, none⟩ = some (.int .i64 mu) ∧ W.cell? ⟨p, 4, none⟩ = some (.int .i64 mv)) := Lib.hid (fun W hW => by
      have h1 := HK3.out.below hW HK3.out.lt
      exact ⟨h1.cell 0, h1.cell 1, h1.cell 2, h1.cell 3, h1.cell 4⟩)
    obtain ⟨bb, hbb⟩ : ∃ b, b = decide (MeantS (n : Int) k ⟨mk, mo, mn, mu, mv⟩) := ⟨_, rfl⟩
    have HM4 : Hid (∀ W, Below w3.heap.size w3 W → Calls Try.prog 20 #[.pointer (some ⟨T, 0, none⟩), .int .i64 k, .agg #[.int .i64 mk, .int .i64 mo, .int .i64 mn, .int .i64 mu, .int .i64 mv]] W fun e w' => e = .returned (.bool bb) ∧ Below w3.heap.size w3 w') := Lib.hid (fun W hW => (HMe.out T g W (HT3.out.below_ hW) HG.out).mono fun e w' h => ⟨by rw [hbb, ← HL.out]; exact h.1, hW.trans (h.2.mono hW.size)⟩)
    have HR4 : Hid (∀ W, Below w3.heap.size w3 W → Calls Try.prog 21 #[.int .i64 (n : Int), .int .i64 k, .agg #[.int .i64 mk, .int .i64 mo, .int .i64 mn, .int .i64 mu, .int .i64 mv]] W fun e w' => e = .returned (.bool bb) ∧ Below w3.heap.size w3 w') := Lib.hid (fun W hW => (HRe.out W).mono fun e w' h => ⟨by rw [hbb]; exact h.1, hW.trans (h.2.mono hW.size)⟩)
    have HD3 : Hid (Below w3.heap.size w3 w3.drew) := Lib.hid (below_drewC (Below.refl _ _) 1)
    have X3 := HX.out w3 (Below.refl _ _)
    have X3d := HX.out w3.drew HD3.out
    clear hb3 ht hch hT hg hTg HN hbb HM3
    cases bb
    all_goals
      go_wp2_with fail
      go_region_held3 (fun W => W.cell? ⟨p, 0, none⟩ = some (.int .i64 mk) ∧ W.cell? ⟨p, 1, none⟩ = some (.int .i64 mo) ∧ W.cell? ⟨p, 2, none⟩ = some (.int .i64 mn) ∧ W.cell? ⟨p, 3, none⟩ = some (.int .i64 mu) ∧ W.cell? ⟨p, 4, none⟩ = some (.int .i64 mv)) (first | with_reducible exact X3 | with_reducible exact X3d | with_reducible exact X4 | with_reducible exact X5) (first
        | (go_at_call 20; go_must (refine (HM4.out _ HD3.out).mono ?_; rintro e w4 ⟨rfl, hb⟩; have HB4 := Lib.hid hb; have X4 := HX.out w4 HB4.out; clear hb))
        | (go_at_call 21; go_must (refine (HR4.out _ HB4.out).mono ?_; rintro e w5 ⟨rfl, hb⟩; have HB5 := Lib.hid hb; have X5 := HX.out w5 HB5.out; clear hb)))
      all_goals
        go_wp2
        go_ret
        exact ⟨rfl, HB3.out.trans (HB5.out.mono HB3.out.size)⟩
  · have t1 : (er == 0) = false := by simpa using her
    have t2 : (er != 0) = true := by simpa using her
    have HB3 := Lib.hid (HB2.out.trans (hb3.mono HB2.out.size))
    have HK3 := Lib.hid (HK2.out.below hb3 HK2.out.lt)
    have her9 := hch.code
    have HM3 := Lib.hid (HMz.out w3)
    have k0 := HK3.out.cell 0
    have k1 := HK3.out.cell 1
    have k2 := HK3.out.cell 2
    have k3 := HK3.out.cell 3
    have k4 := HK3.out.cell 4
    clear hb3 hch her
    go_wp2_with fail
    refine HM3.out.mono ?_
    rintro e w4 ⟨rfl, hb4⟩
    have HB4 := Lib.hid (HB3.out.trans (hb4.mono HB3.out.size))
    clear hb4
    go_wp2
    go_ret
    exact ⟨rfl, HB4.out⟩
end Go.Proofs.Ytcicpgiljceioaa.Pk
